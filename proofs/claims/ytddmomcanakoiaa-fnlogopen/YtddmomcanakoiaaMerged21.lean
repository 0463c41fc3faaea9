/-
  LogPut of the program.
-/
/-
  LogOpen of the program, at its face. (Made by wip/mklogopen.py.)
-/
import Derived.Test.YtddmomcanakoiaaBookPut
import Derived.Test.YtddmomcanakoiaaMerged6
import Derived.Test.YtddmomcanakoiaaMerged10
import Derived.Test.YtddmomcanakoiaaMerged32
import Derived.Test.YtddmomcanakoiaaMerged15
import Derived.Test.YtddmomcanakoiaaMerged11
import Derived.Test.YtddmomcanakoiaaMerged1
set_option linter.unusedVariables false
namespace Go.Proofs.Ytddmomcanakoiaa
open Go.RowKit Go.Maps Go.Deep

theorem ByRow.low {B B' : Nat} {w : World} {v : Value} {bs : List UInt8} (h : ByRow B w v bs) (hB : B' ≤ B) : ByRow B' w v bs := by
  refine ⟨h.1, ?_⟩
  rcases h.2 with h0 | ⟨g, cap, cur, e, hb, r⟩
  · exact .inl h0
  · exact .inr ⟨g, cap, cur, e, Nat.le_trans hB hb, r⟩
theorem TwoRows.low {B B' : Nat} {w : World} {v0 v1 : Value} {xs ys : List UInt8} (h : TwoRows B w v0 v1 xs ys) (hB : B' ≤ B) : TwoRows B' w v0 v1 xs ys := ⟨h.1.low hB, h.2.1.low hB, h.2.2⟩
set_option maxHeartbeats 3200000 in
theorem newLogbook_any (d : DiskV) (v : Value) (w : World) (h0 : d.safe.length ≤ 100000) (h1 : d.soft.length ≤ 100000) (h : DiskRd w v d) :
    Calls Try.prog 30 #[v] w fun e w' => RetDrive d w e w' := by
  have HNW := hide (fun W (b : Below w.heap.size w W) => newDrive_any d v W h0 h1 (h.up b))
  obtain ⟨v0, v1, rfl, g0, g1⟩ := h
  obtain ⟨p0, p2, rfl⟩ := g0.len
  obtain ⟨p3, p5, rfl⟩ := g1.len
  clear g0 g1
  have Y0 := hide (boxF_new4 (w.alloc (.cells #[.slice p0 d.safe.length p2, .slice p3 d.soft.length p5, .int .i64 d.fuse, .bool d.down] 35)) (.slice none 0 0) (.slice none 0 0) (.int .i64 0) (.bool false) 59)
  go_enter Try.func30, Try.ntmps30
  go_wp2_with fail
  refine (unhide HNW _ (by go_grown)).mono ?_
  rintro e w1 ⟨a0, n0, c0, a1, n1, c1, rfl, T1, b1⟩
  have Y1 := hide (show BoxF w1 (w.heap.size + 1) [.slice none 0 0, .slice none 0 0, .int .i64 0, .bool false] by simpa using (unhide Y0).up b1)
  have B1 := hide (show Below w.heap.size w w1 from Below.trans (by go_grown) (b1.mono (by simp; omega)))
  have TT := hide (show TwoRows (w.heap.size + 2) w1 (.slice a0 n0 c0) (.slice a1 n1 c1) d.safe d.soft by simpa using unhide T1)
  clear b1 Y0 T1
  obtain ⟨⟨y0, y1, y2, y3⟩, j0, j1, j2, j3⟩ := (unhide Y1).four
  go_wp2_with fail
  refine bodyPost_ret (v := .agg #[.slice a0 n0 c0, .slice a1 n1 c1, .int .i64 d.fuse, .bool d.down]) (by simp [results, Try.results30, go_sem, y0, y1, y2, y3]) rfl ?_
  have key : ∀ W, Turn [w.heap.size + 1] w1 W → RetDrive d w (.returned (.agg #[.slice a0 n0 c0, .slice a1 n1 c1, .int .i64 d.fuse, .bool d.down])) W := fun W ht =>
    ⟨a0, n0, c0, a1, n1, c1, rfl, hide (TwoRows.low (TwoRows.turn (unhide TT) ht (fun k hk => by simp at hk; omega)) (by omega)), (unhide B1).trans (ht.below (unhide B1).size (fun k hk => by simp at hk; omega))⟩
  exact key _ (((((Turn.refl [w.heap.size + 1] w1).setCell (g := w.heap.size + 1) (by simp) _ _).setCell (g := w.heap.size + 1) (by simp) _ _).setCell (g := w.heap.size + 1) (by simp) _ _).setCell (g := w.heap.size + 1) (by simp) _ _)
end Go.Proofs.Ytddmomcanakoiaa

set_option linter.unusedVariables false
namespace Go.Proofs.Ytddmomcanakoiaa
open Go.RowKit Go.Maps Go.Deep

theorem RcRow.ownB {B : Nat} {w : World} {v : Value} {ns : List RecV} (h : RcRow B w v ns) : ∃ S, RecSOwn S w v ns ∧ (∀ k ∈ S, B ≤ k) ∧ (∀ k ∈ S, v.ownBlock = some k) := by
  have hh : w.ownsRow B 32 4 v ns.length (rcCells ns) := h
  rcases h with ⟨_, ⟨rfl, h0⟩ | ⟨g, cap, cur, rfl, hB, hg, hnc, _⟩⟩
  · have : ns = [] := List.eq_nil_of_length_eq_zero h0
    subst this
    exact ⟨[], .inl ⟨rfl, rfl, none, 0, rfl⟩, by simp, by simp⟩
  · refine ⟨[g], .inr ⟨g, 0, cap, rfl, rfl, (Array.getElem?_eq_some_iff.1 hg).1, fun i hi => ?_, fun i hi => hh.frozenAt _⟩, by simpa using hB, by simp [Value.ownBlock]⟩
    obtain ⟨e0, e1, e2, e3⟩ := rcCells_get ns i hi
    refine ⟨?_, ?_, ?_, ?_⟩
    · rw [Nat.zero_add, hh.cellAt _ (by omega)]; exact e0
    · rw [Nat.zero_add, hh.cellAt _ (by omega)]; exact e1
    · rw [Nat.zero_add, hh.cellAt _ (by omega)]; exact e2
    · rw [Nat.zero_add, hh.cellAt _ (by omega)]; exact e3
theorem boxes2 (w : World) (A B : List Value) (TA TB : TypeId) :
    BoxF ((w.alloc (.cells A.toArray TA)).alloc (.cells B.toArray TB)) w.heap.size A ∧ BoxF ((w.alloc (.cells A.toArray TA)).alloc (.cells B.toArray TB)) (w.heap.size + 1) B ∧ Below w.heap.size w ((w.alloc (.cells A.toArray TA)).alloc (.cells B.toArray TB)) ∧ w.heap.size + 2 = ((w.alloc (.cells A.toArray TA)).alloc (.cells B.toArray TB)).heap.size := by
  have a1 := boxF_new w A TA
  have b1 := (Below.refl w.heap.size w).alloc (Nat.le_refl _) (.cells A.toArray TA)
  have z1 : (w.alloc (.cells A.toArray TA)).heap.size = w.heap.size + 1 := by simp
  generalize w.alloc (.cells A.toArray TA) = w1 at *
  have a2 := boxF_new w1 B TB
  have u2 := (Below.refl w1.heap.size w1).alloc (Nat.le_refl _) (.cells B.toArray TB)
  have z2 : (w1.alloc (.cells B.toArray TB)).heap.size = w1.heap.size + 1 := by simp
  generalize w1.alloc (.cells B.toArray TB) = w2 at *
  refine ⟨a1.up u2, ?_, b1.trans (u2.mono (by omega)), by omega⟩
  rw [← z1]; exact a2
def RetLo (V : DiskV) (R : List RecV) (I : Int) (w : World) (e : Ending) (w' : World) : Prop := ∃ v S vr Q, e = .returned (.tuple #[v, vr, .int .i64 I]) ∧ Hid (DiskOwn S w' v V) ∧ Hid (∀ k ∈ S, w.heap.size ≤ k) ∧ Hid (RecSOwn Q w' vr R) ∧ Hid (∀ k ∈ Q, w.heap.size ≤ k) ∧ Hid (∀ k ∈ S, k ∉ Q) ∧ Below w.heap.size w w'
theorem recs_none (w : World) : RecSOwn [] w (.slice none 0 0) [] := .inl ⟨rfl, rfl, none, 0, rfl⟩
theorem retLo_no {w w' : World} (hb : Below w.heap.size w w') : RetLo noDisk [] 1 w (.returned (.tuple #[.agg #[.slice none 0 0, .slice none 0 0, .int .i64 0, .bool false], .slice none 0 0, .int .i64 1])) w' :=
  ⟨_, [], _, [], rfl, hide ⟨_, _, [], [], rfl, rfl, ByOwn.nil _ _ _, ByOwn.nil _ _ _, by simp⟩, hide (by intro k hk; simp at hk), hide (recs_none w'), hide (by intro k hk; simp at hk), hide (by intro k hk; simp at hk), hb⟩
theorem retLo_two {V : DiskV} {R : List RecV} {I : Int} {B : Nat} {w w' : World} {v0 v1 vr : Value} (h : TwoRows B w' v0 v1 V.safe V.soft) (r : RcRow B w' vr R) (ha : ∀ k, vr.ownBlock = some k → v0.ownBlock ≠ some k ∧ v1.ownBlock ≠ some k) (hB : w.heap.size ≤ B) (hb : Below w.heap.size w w') :
    RetLo V R I w (.returned (.tuple #[.agg #[v0, v1, .int .i64 V.fuse, .bool V.down], vr, .int .i64 I])) w' := by
  obtain ⟨S, h1, h2, h3⟩ := h.1.own
  obtain ⟨T, k1, k2, k3⟩ := h.2.1.own
  obtain ⟨Q, r1, r2, r3⟩ := r.ownB
  refine ⟨_, S ++ T, vr, Q, rfl, hide ⟨_, _, S, T, rfl, rfl, h1, k1, fun k hk hm => h.2.2 k (h3 k hk) (k3 k hm)⟩, hide ?_, hide r1, hide (fun k hk => Nat.le_trans hB (r2 k hk)), hide ?_, hb⟩
  · intro k hk; rcases List.mem_append.1 hk with hk | hk; exact Nat.le_trans hB (h2 k hk); exact Nat.le_trans hB (k2 k hk)
  · intro k hk hq
    have := ha k (r3 k hq)
    rcases List.mem_append.1 hk with hk | hk
    · exact this.1 (h3 k hk)
    · exact this.2 (k3 k hk)
set_option maxHeartbeats 6400000 in
theorem implLogOpen_bad (d : DiskV) (v : Value) (w : World) (hs : SmallDisk d) (h : DiskRd w v d) (hg : diskOkB d = false) : Calls Try.prog 13 #[v] w fun e w' => RetLo (loV d) (loR d) (loI d) w e w' := by
  obtain ⟨e1, e2, e3⟩ := lo_bad hg
  rw [e1, e2, e3]
  clear e1 e2 e3
  have HK := hide (fun W (b : Below w.heap.size w W) => implDiskOk_any d v W (by have := hs.1; omega) (by have := hs.2; omega) (h.up b))
  rw [hg] at HK
  clear hg hs
  obtain ⟨v0, v1, rfl, h0, h1⟩ := h
  obtain ⟨p0, p2, rfl⟩ := h0.len
  obtain ⟨p3, p5, rfl⟩ := h1.len
  clear h0 h1
  obtain ⟨x0, y0, b0, z0⟩ := boxes2 w [.slice p0 d.safe.length p2, .slice p3 d.soft.length p5, .int .i64 d.fuse, .bool d.down] [.slice none 0 0, .slice none 0 0, .int .i64 0, .bool false] 35 35
  have X0 := hide x0
  have Y0 := hide y0
  have B0 := hide b0
  have Z0 := hide z0
  clear x0 y0 b0 z0
  go_enter Try.func13, Try.ntmps13
  go_wp2_with fail
  refine (unhide HK _ (unhide B0)).mono ?_
  rintro e w1 ⟨rfl, b1⟩
  have Y1 := hide ((unhide Y0).up b1)
  have B1 := hide ((unhide B0).trans (b1.mono (unhide B0).size))
  clear b1 X0 Y0 B0 HK
  obtain ⟨⟨y0, y1, y2, y3⟩, j0, j1, j2, j3⟩ := (unhide Y1).four
  go_wp2_with fail
  refine bodyPost_ret (v := .tuple #[.agg #[.slice none 0 0, .slice none 0 0, .int .i64 0, .bool false], .slice none 0 0, .int .i64 1]) (by simp [results, Try.results13, go_sem, y0, y1, y2, y3]) rfl ?_
  have key : ∀ W, Turn [w.heap.size + 1] w1 W → RetLo noDisk [] 1 w (.returned (.tuple #[.agg #[.slice none 0 0, .slice none 0 0, .int .i64 0, .bool false], .slice none 0 0, .int .i64 1])) W := fun W ht => retLo_no ((unhide B1).trans (ht.below (unhide B1).size (fun k hk => by simp at hk; omega)))
  exact key _ (((((Turn.refl [w.heap.size + 1] w1).setCell (g := w.heap.size + 1) (by simp) _ _).setCell (g := w.heap.size + 1) (by simp) _ _).setCell (g := w.heap.size + 1) (by simp) _ _).setCell (g := w.heap.size + 1) (by simp) _ _)
set_option maxHeartbeats 6400000 in
theorem implLogOpen_yes (d : DiskV) (v : Value) (w : World) (hs : SmallDisk d) (h : DiskRd w v d) (hg : diskOkB d = true) : Calls Try.prog 13 #[v] w fun e w' => RetLo (loV d) (loR d) (loI d) w e w' := by
  obtain ⟨e1, e2, e3⟩ := lo_yes hg
  rw [e1, e2, e3]
  clear e1 e2 e3
  have HK := hide (fun W (b : Below w.heap.size w W) => implDiskOk_any d v W (by have := hs.1; omega) (by have := hs.2; omega) (h.up b))
  rw [hg] at HK
  have hsm := disk_small hg
  have HNW := hide (fun W (b : Below w.heap.size w W) => newLogbook_any d v W (by omega) (by omega) (h.up b))
  have HPB := hide (fun B W g v0 v1 (hB : B ≤ W.heap.size) (D : Drive B W g v0 v1 d) => bookOpen_any B W g v0 v1 d hg hB D)
  clear hg hs
  obtain ⟨v0, v1, rfl, h0, h1⟩ := h
  obtain ⟨p0, p2, rfl⟩ := h0.len
  obtain ⟨p3, p5, rfl⟩ := h1.len
  clear h0 h1
  obtain ⟨x0, y0, b0, z0⟩ := boxes2 w [.slice p0 d.safe.length p2, .slice p3 d.soft.length p5, .int .i64 d.fuse, .bool d.down] [.slice none 0 0, .slice none 0 0, .int .i64 0, .bool false] 35 35
  have X0 := hide x0
  have Y0 := hide y0
  have B0 := hide b0
  have Z0 := hide z0
  clear x0 y0 b0 z0
  go_enter Try.func13, Try.ntmps13
  go_wp2_with fail
  refine (unhide HK _ (unhide B0)).mono ?_
  rintro e w1 ⟨rfl, b1⟩
  have X1 := hide ((unhide X0).up b1)
  have Y1 := hide ((unhide Y0).up b1)
  have B1 := hide ((unhide B0).trans (b1.mono (unhide B0).size))
  have HZ1 := hide (show w.heap.size + 2 ≤ w1.heap.size by have := unhide Z0; have := b1.size; omega)
  clear b1 X0 Y0 B0 HK
  obtain ⟨⟨x0, x1, x2, x3⟩, f0, f1, f2, f3⟩ := (unhide X1).four
  go_wp2_with fail
  refine (unhide HNW _ (unhide B1)).mono ?_
  rintro e w3 ⟨a0, n0, c0, a1, n1, c1, rfl, T3, b3⟩
  have Y3 := hide ((unhide Y1).up b3)
  have B3 := hide ((unhide B1).trans (b3.mono (unhide B1).size))
  have HZ3 := hide b3.size
  have DR := hide (drive_new (d := d) (unhide T3) (unhide HZ3) 59)
  have bA : Below w3.heap.size w3 (w3.alloc (.cells #[.slice a0 n0 c0, .slice a1 n1 c1, .int .i64 d.fuse, .bool d.down] 59)) := (Below.refl _ _).alloc (Nat.le_refl _) _
  have YW := hide ((unhide Y3).up bA)
  have BW := hide ((unhide B3).trans (bA.mono (unhide B3).size))
  have HZW := hide bA.size
  clear b3 x0 x1 x2 x3 f0 f1 f2 f3 X1 Y1 Y3 bA HNW
  go_wp2_with fail
  generalize w3.alloc (.cells #[.slice a0 n0 c0, .slice a1 n1 c1, .int .i64 d.fuse, .bool d.down] 59) = W3 at *
  refine (unhide HPB w1.heap.size W3 w3.heap.size _ _ (by have := unhide HZ3; have := unhide HZW; omega) (unhide DR)).mono ?_
  rintro e w4 ⟨ra, rn, rc, v4, v5, rfl, D4, RR4, AP4, b4⟩
  obtain ⟨q0, q1, q2, rfl⟩ : ∃ a n c, v4 = .slice a n c := by obtain ⟨a, c, e⟩ := (unhide D4).r0.slice; exact ⟨a, _, c, e⟩
  obtain ⟨q3, q4, q5, rfl⟩ : ∃ a n c, v5 = .slice a n c := by obtain ⟨a, c, e⟩ := (unhide D4).r1.slice; exact ⟨a, _, c, e⟩
  have Y4 := hide ((unhide YW).below b4 (by have := unhide HZ1; omega))
  have B4 := hide ((unhide BW).trans (b4.mono (unhide B1).size))
  have c0' := (unhide D4).c0
  have c1' := (unhide D4).c1
  have c2' := (unhide D4).c2
  have c3' := (unhide D4).c3
  clear b4 DR YW BW T3 HPB
  obtain ⟨⟨y0, y1, y2, y3⟩, j0, j1, j2, j3⟩ := (unhide Y4).four
  generalize hO : boD d = O at c0' c1' c2' c3' D4 ⊢
  generalize hR : boR d = R at RR4 ⊢
  generalize hC : boI d = CC at ⊢
  go_wp2_with fail
  refine bodyPost_ret (v := .tuple #[.agg #[.slice q0 q1 q2, .slice q3 q4 q5, .int .i64 O.fuse, .bool O.down], .slice ra rn rc, .int .i64 CC]) (by simp [results, Try.results13, go_sem, y0, y1, y2, y3]) rfl ?_
  have key : ∀ W, Turn [w.heap.size + 1] w4 W → RetLo O R CC w (.returned (.tuple #[.agg #[.slice q0 q1 q2, .slice q3 q4 q5, .int .i64 O.fuse, .bool O.down], .slice ra rn rc, .int .i64 CC])) W := fun W ht =>
    retLo_two (B := w1.heap.size) (TwoRows.turn ⟨(unhide D4).r0, (unhide D4).r1, (unhide D4).n01⟩ ht (fun k hk => by have := unhide HZ1; simp at hk; omega)) ((unhide RR4).keep (fun k hk => ht.block k ((unhide RR4).lt k hk) (fun hm => by have := unhide HZ1; have := (unhide RR4).ge k hk; simp at hm; omega))) (fun k hk => ((unhide AP4) k hk).2) (unhide B1).size ((unhide B4).trans (ht.below (unhide B4).size (fun k hk => by simp at hk; omega)))
  subst hO
  subst hR
  subst hC
  exact key _ (((((Turn.refl [w.heap.size + 1] w4).setCell (g := w.heap.size + 1) (by simp) _ _).setCell (g := w.heap.size + 1) (by simp) _ _).setCell (g := w.heap.size + 1) (by simp) _ _).setCell (g := w.heap.size + 1) (by simp) _ _)
theorem implLogOpen_any (d : DiskV) (v : Value) (w : World) (hs : SmallDisk d) (h : DiskRd w v d) : Calls Try.prog 13 #[v] w fun e w' => RetLo (loV d) (loR d) (loI d) w e w' := by
  cases hg : diskOkB d
  · exact implLogOpen_bad d v w hs h hg
  · exact implLogOpen_yes d v w hs h hg
end Go.Proofs.Ytddmomcanakoiaa
