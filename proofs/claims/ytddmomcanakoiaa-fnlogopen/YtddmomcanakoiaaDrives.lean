/-
  A disk at work: four cells of a block, and two rows of its own; how it is made, how it falls.
-/
import Derived.Test.YtddmomcanakoiaaDiskAll
import Derived.Test.YtddmomcanakoiaaBoxes
import Derived.Deep.RegionLaw
set_option linter.unusedVariables false
namespace Go.Proofs.Ytddmomcanakoiaa
open Go.RowKit Go.Maps Go.Deep

theorem bcell2 {W w1 : World} (hb : Below W.heap.size W w1) : (∀ b o, b < W.heap.size → w1.cell? ⟨b, o, none⟩ = W.cell? ⟨b, o, none⟩) ∧ (∀ b o, b < W.heap.size → w1.frozen? ⟨b, o, none⟩ = W.frozen? ⟨b, o, none⟩) :=
  ⟨fun b o h => hb.cell (p := ⟨b, o, none⟩) h, fun b o h => hb.frozen (p := ⟨b, o, none⟩) h⟩
structure Drive (B : Nat) (w : World) (g : Nat) (v0 v1 : Value) (d : DiskV) : Prop where
  le : B ≤ g
  lt : g < w.heap.size
  c0 : w.cell? ⟨g, 0, none⟩ = some v0
  c1 : w.cell? ⟨g, 1, none⟩ = some v1
  c2 : w.cell? ⟨g, 2, none⟩ = some (.int .i64 d.fuse)
  c3 : w.cell? ⟨g, 3, none⟩ = some (.bool d.down)
  soft : ∀ i, i < 4 → w.frozen? ⟨g, i, none⟩ = false
  r0 : ByRow B w v0 d.safe
  r1 : ByRow B w v1 d.soft
  n0 : ∀ k, v0.ownBlock = some k → k ≠ g
  n1 : ∀ k, v1.ownBlock = some k → k ≠ g
  n01 : ∀ k, v0.ownBlock = some k → v1.ownBlock ≠ some k
theorem Drive.up {B : Nat} {w w' : World} {g : Nat} {v0 v1 : Value} {d : DiskV} (h : Drive B w g v0 v1 d) (hb : Below w.heap.size w w') : Drive B w' g v0 v1 d :=
  ⟨h.le, Nat.lt_of_lt_of_le h.lt hb.size, (hb.cell (by exact h.lt)).trans h.c0, (hb.cell (by exact h.lt)).trans h.c1, (hb.cell (by exact h.lt)).trans h.c2, (hb.cell (by exact h.lt)).trans h.c3, fun i hi => (hb.frozen (by exact h.lt)).trans (h.soft i hi), h.r0.up hb, h.r1.up hb, h.n0, h.n1, h.n01⟩
theorem ByRow.cut {B : Nat} {w : World} {v : Value} {bs : List UInt8} (h : ByRow B w v bs) (n : Nat) (hn : n ≤ bs.length) : ∀ a m c, v = .slice a m c → ByRd w (.slice a n c) (bs.take n) := by
  intro a m c e
  subst e
  obtain ⟨a', c', e, hin, hcap⟩ := h.rd
  simp only [Value.slice.injEq] at e
  obtain ⟨rfl, rfl, rfl⟩ := e
  refine ⟨a, c, by simp [Nat.min_eq_left hn], ?_, by simp; omega⟩
  rcases hin with rfl | ⟨b, off, e, hb, hc⟩
  · exact .inl (by simp)
  · exact .inr ⟨b, off, e, hb, fun i hi => by
      simp at hi
      rw [List.getElem_take]
      exact hc i (by omega)⟩

/-- nothing turned but the block g and the row v0's own -/
def Keeps (g : Nat) (v0 : Value) (w w' : World) : Prop := ∀ k, k < w.heap.size → k ≠ g → v0.ownBlock ≠ some k → w'.heap[k]? = w.heap[k]?
theorem fell {B : Nat} {w w2 : World} {g : Nat} {v0 v1 : Value} {d : DiskV} {a2 : Option Addr} {n2 e2 : Nat} {bs : List UInt8} (D : Drive B w g v0 v1 d) (G : w.drew.grownBy w2 v0.ownBlock) (R : ByRow B w2 (.slice a2 n2 e2) bs)
    (O : (Value.slice a2 n2 e2).ownBlock = v0.ownBlock ∨ ∀ k, (Value.slice a2 n2 e2).ownBlock = some k → w.drew.heap.size ≤ k) (hc : ∀ i, i < 4 → ∃ x, w2.cell? ⟨g, i, none⟩ = some x) (hf : ∀ i, i < 4 → w2.frozen? ⟨g, i, none⟩ = false) (hB : B ≤ w.heap.size) :
    ∃ v, Drive B ((((w2.setCell ⟨g, 0, none⟩ (.slice a2 n2 e2)).setCell ⟨g, 1, none⟩ (.slice none 0 0)).setCell ⟨g, 2, none⟩ (.int .i64 (-1))).setCell ⟨g, 3, none⟩ (.bool true)) g v (.slice none 0 0) ⟨bs, [], -1, true⟩ ∧ Below B w ((((w2.setCell ⟨g, 0, none⟩ (.slice a2 n2 e2)).setCell ⟨g, 1, none⟩ (.slice none 0 0)).setCell ⟨g, 2, none⟩ (.int .i64 (-1))).setCell ⟨g, 3, none⟩ (.bool true)) ∧ Keeps g v0 w ((((w2.setCell ⟨g, 0, none⟩ (.slice a2 n2 e2)).setCell ⟨g, 1, none⟩ (.slice none 0 0)).setCell ⟨g, 2, none⟩ (.int .i64 (-1))).setCell ⟨g, 3, none⟩ (.bool true)) := by
  obtain ⟨h0, h1, h2, h3, hfr, ht⟩ := fill4 w2 g (.slice a2 n2 e2) (.slice none 0 0) (.int .i64 (-1)) (.bool true) hc
  generalize ((((w2.setCell ⟨g, 0, none⟩ (.slice a2 n2 e2)).setCell ⟨g, 1, none⟩ (.slice none 0 0)).setCell ⟨g, 2, none⟩ (.int .i64 (-1))).setCell ⟨g, 3, none⟩ (.bool true)) = W at *
  have hz : w.heap.size ≤ w2.heap.size := G.size
  have hgz := D.lt
  have hne : ∀ k, (Value.slice a2 n2 e2).ownBlock = some k → k ≠ g := by
    intro k hk
    rcases O with O | O
    · exact D.n0 k (O ▸ hk)
    · have h5 : w.heap.size ≤ k := O k hk
      omega
  refine ⟨_, ⟨D.le, Nat.lt_of_lt_of_le (by omega) ht.size, h0, h1, h2, h3, fun i hi => (hfr i).trans (hf i hi), ?_, ByRow.nil _ _, hne, by simp [Value.ownBlock], by simp [Value.ownBlock]⟩, ?_, fun k hk hg hv => (ht.block k (Nat.lt_of_lt_of_le hk hz) (by simpa using hg)).trans (G.block k hk (fun e => hv e.symm))⟩
  · exact R.turn ht (fun k hk hm => hne k hk (by simpa using hm))
  · refine Below.trans (Below.grown (Below.refl B w).drew G hB (fun y hy => D.r0.ge y hy)) (ht.below ?_ (fun k hk => by simp at hk; subst hk; exact D.le))
    omega
set_option maxHeartbeats 3200000 in
theorem fall_more (B : Nat) (w : World) (g keep : Nat) (v0 v1 : Value) (d : DiskV) (hk : keep ≤ d.soft.length) (hl : d.safe.length + d.soft.length ≤ 100000) (hB : B ≤ w.heap.size) (h : Drive B w g v0 v1 d) :
    Calls Try.prog 77 #[.pointer (some ⟨g, 0, none⟩), .int .i64 (keep : Int)] w fun e w' => e = .returned (.tuple #[]) ∧ Hid (∃ v, Drive B w' g v (.slice none 0 0) ⟨d.safe ++ d.soft.take keep, [], -1, true⟩ ∧ Below B w w' ∧ Keeps g v0 w w') := by
  obtain ⟨a0, e0, rfl⟩ := h.r0.slice
  obtain ⟨a1, e1, rfl⟩ := h.r1.slice
  have D := hide h
  have RT := hide (h.r1.cut keep hk _ _ _ rfl)
  have c0 := h.c0
  have c1 := h.c1
  have c2 := h.c2
  have c3 := h.c3
  have f0 := h.soft 0 (by omega)
  have f1 := h.soft 1 (by omega)
  have f2 := h.soft 2 (by omega)
  have f3 := h.soft 3 (by omega)
  clear h
  have hcap : (d.soft.length : Int) ≤ (e1 : Int) := by
    rcases (unhide D).r1.2 with ⟨h, h0⟩ | ⟨g', cap', cur, h, _, _, hh, _⟩
    · simp at h; omega
    · simp at h; omega
  have hk' : (keep : Int) ≤ (d.soft.length : Int) := by omega
  have hke : keep ≤ e1 := by omega
  have R0 := hide (show ByRow B w.drew (.slice a0 d.safe.length e0) d.safe from (unhide D).r0.keep (fun _ _ => rfl))
  have RT2 := hide (show ByRd w.drew (.slice a1 keep e1) (d.soft.take keep) from unhide RT)
  have hlt : (d.soft.take keep).length = keep := by simp [Nat.min_eq_left hk]
  have HLT := hide hlt
  have hl2 := hide (show d.safe.length + (d.soft.take keep).length ≤ 140737488355328 by omega)
  have hB2 : B ≤ w.drew.heap.size := hB
  have n0g := hide (unhide D).n0
  have KEEP := hide (show ∀ w2 : World, w.drew.grownBy w2 (Value.slice a0 d.safe.length e0).ownBlock → (w2.cell? ⟨g, 0, none⟩ = some (.slice a0 d.safe.length e0) ∧ w2.cell? ⟨g, 1, none⟩ = some (.slice a1 d.soft.length e1) ∧ (w2.cell? ⟨g, 2, none⟩ = some (.int .i64 d.fuse)) ∧ (w2.cell? ⟨g, 3, none⟩ = some (.bool d.down)) ∧ w2.frozen? ⟨g, 0, none⟩ = false ∧ w2.frozen? ⟨g, 1, none⟩ = false ∧ w2.frozen? ⟨g, 2, none⟩ = false ∧ w2.frozen? ⟨g, 3, none⟩ = false) from fun w2 hg => by
    have hb : w2.heap[g]? = w.heap[g]? := hg.block g (unhide D).lt (fun e => unhide n0g g e.symm rfl)
    have hcell : ∀ i, w2.cell? ⟨g, i, none⟩ = w.cell? ⟨g, i, none⟩ := fun i => World.cell?_of_block (w := w) (a := ⟨g, i, none⟩) hb
    have hfr : ∀ i, w2.frozen? ⟨g, i, none⟩ = w.frozen? ⟨g, i, none⟩ := fun i => World.frozen?_of_block (w := w) (a := ⟨g, i, none⟩) hb
    rw [hcell, hcell, hcell, hcell, hfr, hfr, hfr, hfr]
    exact ⟨(unhide D).c0, (unhide D).c1, (unhide D).c2, (unhide D).c3, (unhide D).soft 0 (by omega), (unhide D).soft 1 (by omega), (unhide D).soft 2 (by omega), (unhide D).soft 3 (by omega)⟩)
  clear hlt
  generalize hn0 : d.safe.length = n0 at *
  generalize hn1 : d.soft.length = n1 at *
  have HN0 := hide hn0
  have HN1 := hide hn1
  clear hn0 hn1 hl RT
  have G0 := hide (show w.drew.grownBy w.drew (Value.slice a0 n0 e0).ownBlock from grown_self _ _)
  go_enter Try.func77, Try.ntmps77
  go_wp2_with fail
  go_region_law (refine step_byAppend (by rfl) (.tmp 9) (.tmp 16) (by rfl) B (.slice a0 n0 e0) (.slice a1 keep e1) d.safe (d.soft.take keep) (by rfl) (by rfl) (unhide R0) (unhide RT2) (by rw [unhide HN0]; exact unhide hl2) hB2 ?_; intro a2 n2 e2 w2 r2 g2 o2; have R2 := hide r2; obtain ⟨k0, k1, k2, k3, j0, j1, j2, j3⟩ := unhide KEEP _ g2; have G2 := hide g2; have O2 := hide o2; clear r2 g2 o2)
  all_goals
    have HP := hide (show ∃ v, Drive B ((((w2.setCell ⟨g, 0, none⟩ (.slice a2 n2 e2)).setCell ⟨g, 1, none⟩ (.slice none 0 0)).setCell ⟨g, 2, none⟩ (.int .i64 (-1))).setCell ⟨g, 3, none⟩ (.bool true)) g v (.slice none 0 0) ⟨d.safe ++ d.soft.take keep, [], -1, true⟩ ∧ Below B w ((((w2.setCell ⟨g, 0, none⟩ (.slice a2 n2 e2)).setCell ⟨g, 1, none⟩ (.slice none 0 0)).setCell ⟨g, 2, none⟩ (.int .i64 (-1))).setCell ⟨g, 3, none⟩ (.bool true)) ∧ Keeps g (.slice a0 n0 e0) w ((((w2.setCell ⟨g, 0, none⟩ (.slice a2 n2 e2)).setCell ⟨g, 1, none⟩ (.slice none 0 0)).setCell ⟨g, 2, none⟩ (.int .i64 (-1))).setCell ⟨g, 3, none⟩ (.bool true)) from fell (unhide D) (unhide G2) (unhide R2) (unhide O2) (fun i hi => match i, hi with | 0, _ => ⟨_, k0⟩ | 1, _ => ⟨_, k1⟩ | 2, _ => ⟨_, k2⟩ | 3, _ => ⟨_, k3⟩) (fun i hi => match i, hi with | 0, _ => j0 | 1, _ => j1 | 2, _ => j2 | 3, _ => j3) hB)
    clear k0 k1 k2 k3 j0 j1 j2 j3
    go_end0
    exact ⟨rfl, HP⟩

theorem fall_any (B : Nat) (w : World) (g keep : Nat) (v0 v1 : Value) (d : DiskV) (hk : keep ≤ d.soft.length) (hl : d.safe.length + d.soft.length ≤ 100000) (hB : B ≤ w.heap.size) (h : Drive B w g v0 v1 d) :
    Calls Try.prog 77 #[.pointer (some ⟨g, 0, none⟩), .int .i64 (keep : Int)] w fun e w' => e = .returned (.tuple #[]) ∧ Hid (∃ v, Drive B w' g v (.slice none 0 0) ⟨d.safe ++ d.soft.take keep, [], -1, true⟩ ∧ Below B w w') := by
  refine (fall_more B w g keep v0 v1 d hk hl hB h).mono ?_
  rintro e w' ⟨rfl, P⟩
  obtain ⟨v, h1, h2, _⟩ := unhide P
  exact ⟨rfl, hide ⟨v, h1, h2⟩⟩

/-- two rows of one's own, apart, and the value that names them -/
def TwoRows (B : Nat) (w : World) (v0 v1 : Value) (xs ys : List UInt8) : Prop := ByRow B w v0 xs ∧ ByRow B w v1 ys ∧ ∀ k, v0.ownBlock = some k → v1.ownBlock ≠ some k
def RetDrive (d : DiskV) (w : World) (e : Ending) (w' : World) : Prop := ∃ a0 n0 c0 a1 n1 c1, e = .returned (.agg #[.slice a0 n0 c0, .slice a1 n1 c1, .int .i64 d.fuse, .bool d.down]) ∧ Hid (TwoRows w.heap.size w' (.slice a0 n0 c0) (.slice a1 n1 c1) d.safe d.soft) ∧ Below w.heap.size w w'
set_option maxHeartbeats 3200000 in
theorem newDrive_any (d : DiskV) (v : Value) (w : World) (h0 : d.safe.length ≤ 100000) (h1 : d.soft.length ≤ 100000) (h : DiskRd w v d) :
    Calls Try.prog 54 #[v] w fun e w' => RetDrive d w e w' := by
  obtain ⟨v0, v1, rfl, i0, i1⟩ := h
  have HA := hide (fun W (b : Below w.heap.size w W) => clone_any W v0 d.safe (i0.up b) (by omega))
  have HB := hide (fun W (b : Below w.heap.size w W) => clone_any W v1 d.soft (i1.up b) (by omega))
  obtain ⟨p0, p1, p2, rfl⟩ : ∃ a n c, v0 = .slice a n c := by obtain ⟨a, c, e⟩ := i0.len; exact ⟨a, _, c, e⟩
  obtain ⟨p3, p4, p5, rfl⟩ : ∃ a n c, v1 = .slice a n c := by obtain ⟨a, c, e⟩ := i1.len; exact ⟨a, _, c, e⟩
  clear i0 i1
  have X0 := hide ((boxF_new4 w (.slice p0 p1 p2) (.slice p3 p4 p5) (.int .i64 d.fuse) (.bool d.down) 35).up ((Below.refl _ _).alloc (Nat.le_refl _) (.cells #[.slice none 0 0, .slice none 0 0, .int .i64 0, .bool false] 57)))
  have Y0 := hide (boxF_new4 (w.alloc (.cells #[.slice p0 p1 p2, .slice p3 p4 p5, .int .i64 d.fuse, .bool d.down] 35)) (.slice none 0 0) (.slice none 0 0) (.int .i64 0) (.bool false) 57)
  go_enter Try.func54, Try.ntmps54
  go_wp2_with fail
  refine (unhide HA _ (by go_grown)).mono ?_
  rintro e w1 ⟨a0, n0, c0, rfl, hn0, r0, b1⟩
  have X1 := hide ((unhide X0).up b1)
  have Y1 := hide (show BoxF w1 (w.heap.size + 1) [.slice none 0 0, .slice none 0 0, .int .i64 0, .bool false] by simpa using (unhide Y0).up b1)
  have R0 := hide (show ByRow (w.heap.size + 2) w1 (.slice a0 n0 c0) d.safe by simpa using r0)
  have B1 := hide (show Below w.heap.size w w1 from Below.trans (by go_grown) (b1.mono (by simp; omega)))
  have L0 := hide r0.lt
  have HZZ := hide (show w.heap.size + 2 ≤ w1.heap.size by have := b1.size; simp at this; omega)
  clear r0 b1 X0 Y0
  obtain ⟨⟨x0, x1, x2, x3⟩, f0, f1, f2, f3⟩ := (unhide X1).four
  go_wp2_with fail
  clear x0 x1 x2 x3 f0 f1 f2 f3
  have B1s := hide (show Below w.heap.size w (w1.setCell ⟨w.heap.size, 0, none⟩ (.slice a0 n0 c0)) from (unhide B1).setCell (Nat.le_refl _) _)
  have X1s := hide ((unhide X1).set 0 (.slice a0 n0 c0) (by simp))
  have Y1s := hide ((unhide Y1).far (g' := w.heap.size) 0 (.slice a0 n0 c0) (by omega))
  have R0s := hide ((unhide R0).turn ((Turn.refl [w.heap.size] w1).setCell (g := w.heap.size) (by simp) 0 (.slice a0 n0 c0)) (fun k hk hm => by have := (unhide R0).ge k hk; simp at hm; omega))
  have hzs : w1.heap.size ≤ (w1.setCell ⟨w.heap.size, 0, none⟩ (.slice a0 n0 c0)).heap.size := by simp
  generalize w1.setCell ⟨w.heap.size, 0, none⟩ (.slice a0 n0 c0) = W1 at *
  refine (unhide HB _ (unhide B1s)).mono ?_
  rintro e w2 ⟨a1, n1, c1, rfl, hn1, r1, b2⟩
  have R1 := hide r1
  have B2 := hide ((unhide B1s).trans (b2.mono (unhide B1s).size))
  have X2 := hide ((unhide X1s).up b2)
  have Y2 := hide ((unhide Y1s).up b2)
  have R02 := hide ((unhide R0s).up b2)
  have HZ := hide hzs
  clear r1 b2 X1 Y1 X1s Y1s R0 R0s B1 B1s hzs
  simp only [List.set] at X2
  obtain ⟨⟨x0, x1, x2, x3⟩, f0, f1, f2, f3⟩ := (unhide X2).four
  obtain ⟨⟨y0, y1, y2, y3⟩, h0, h1, h2, h3⟩ := (unhide Y2).four
  go_wp2_with fail
  refine bodyPost_ret (v := .agg #[.slice a0 n0 c0, .slice a1 n1 c1, .int .i64 d.fuse, .bool d.down]) (by simp [results, Try.results54, go_sem, y0, y1, y2, y3]) rfl ?_
  have key : ∀ W, Turn [w.heap.size, w.heap.size + 1] w2 W → RetDrive d w (.returned (.agg #[.slice a0 n0 c0, .slice a1 n1 c1, .int .i64 d.fuse, .bool d.down])) W := fun W ht => by
    have hb := (unhide B2).size
    have hg0 := (unhide R02).ge
    have hg1 := (unhide R1).ge
    have hl0 := unhide L0
    have hz := unhide HZ
    have hw1 : w.heap.size + 2 ≤ w1.heap.size ∨ ∀ k, (Value.slice a0 n0 c0).ownBlock = some k → False := by
      cases hv : (Value.slice a0 n0 c0).ownBlock with
      | none => exact .inr (fun k hk => by cases hk)
      | some k => exact .inl (by have := hg0 k hv; have := hl0 k hv; omega)
    have hzz := unhide HZZ
    refine ⟨a0, n0, c0, a1, n1, c1, rfl, hide ⟨((unhide R02).turn ht (fun k hk hm => by have := hg0 k hk; simp at hm; omega)).mono (by omega), ((unhide R1).turn ht (fun k hk hm => by have := hg1 k hk; simp at hm; omega)).mono (by omega), fun k hk hm => ?_⟩, (unhide B2).trans (ht.below hb (fun k hk => by simp at hk; omega))⟩
    have := hl0 k hk
    have := hg1 k hm
    omega
  exact key _ (((((((Turn.refl _ _).setCell (g := w.heap.size) (by simp) _ _).setCell (g := w.heap.size + 1) (by simp) _ _).setCell (g := w.heap.size + 1) (by simp) _ _).setCell (g := w.heap.size + 1) (by simp) _ _).setCell (g := w.heap.size + 1) (by simp) _ _))
end Go.Proofs.Ytddmomcanakoiaa
