/-
  The laws' own helpers over one disk: how much it holds, how it is copied, compared, marked and found marked again; how one that comes in is opened.
-/
import Derived.Test.YthlcgghilmpboaaDisks
import Derived.Test.YthlcgghilmpboaaByArg
import Derived.OpenShut
set_option linter.unusedVariables false
namespace Go.Proofs.Ythlcgghilmpboaa
open Go.RowKit Go.Maps Go.Deep Go.ChangeShapes Go.WideShapes Go.ChangeAt

theorem bcell {W w1 : World} (hb : Below W.heap.size W w1) : (∀ b o, b < W.heap.size → w1.cell? ⟨b, o, none⟩ = W.cell? ⟨b, o, none⟩) ∧ (∀ b o, b < W.heap.size → w1.frozen? ⟨b, o, none⟩ = W.frozen? ⟨b, o, none⟩) :=
  ⟨fun b o h => hb.cell (p := ⟨b, o, none⟩) h, fun b o h => hb.frozen (p := ⟨b, o, none⟩) h⟩

set_option maxHeartbeats 1600000 in
theorem szDisk_any (d : DiskV) (a0 a1 : Option Addr) (c0 c1 : Nat) (w : World) (hf : DiskFit d) :
    Calls Try.prog 4 #[.agg #[.slice a0 d.safe.length c0, .slice a1 d.soft.length c1, .int .i64 d.fuse, .bool d.down], .int .i64 1048576] w fun e w' => ∃ q : Int, e = .returned (.int .i64 q) ∧ (0 ≤ q → d.safe.length ≤ 1048576 ∧ d.soft.length ≤ 1048576) ∧ Below w.heap.size w w' := by
  obtain ⟨safe, soft, fuse, down⟩ := d
  obtain ⟨h0, h1⟩ := hf
  simp only at h0 h1 ⊢
  have HA := hide (fun W => szByteS_any W a0 safe.length c0 1048576 (by omega) (by omega) h0)
  have HB := hide (fun W (g : 0 ≤ szB safe.length 1048576) => szByteS_any W a1 soft.length c1 (szB safe.length 1048576) g (by unfold szB; split <;> omega) h1)
  have H0 := hide (show 0 ≤ szB safe.length 1048576 → safe.length ≤ 1048576 by unfold szB; split <;> omega)
  have H1 := hide (show 0 ≤ szB soft.length (szB safe.length 1048576) → soft.length ≤ 1048576 by unfold szB; split <;> omega)
  clear h0 h1
  generalize szB safe.length 1048576 = q0 at *
  generalize szB soft.length q0 = q1 at *
  by_cases g0 : q0 < 0
  · go_enter Try.func4, Try.ntmps4
    go_wp2_with fail
    refine (unhide HA _).mono ?_
    rintro e w1 ⟨rfl, rfl⟩
    go_wp2_with fail
    go_ret
    exact ⟨_, rfl, fun h => by omega, by go_grown⟩
  · go_enter Try.func4, Try.ntmps4
    go_wp2_with fail
    refine (unhide HA _).mono ?_
    rintro e w1 ⟨rfl, rfl⟩
    go_wp2_with fail
    refine (unhide HB _ (by omega)).mono ?_
    rintro e w1 ⟨rfl, rfl⟩
    by_cases g1 : q1 < 0
    · go_wp2_with fail
      go_ret
      exact ⟨_, rfl, fun h => by omega, by go_grown⟩
    · go_wp2_with fail
      go_ret
      exact ⟨_, rfl, fun h => ⟨unhide H0 (by omega), unhide H1 h⟩, by go_grown⟩

def RetOwn (d : DiskV) (w : World) (e : Ending) (w' : World) : Prop := ∃ v S, e = .returned v ∧ DiskOwn S w' v d ∧ (∀ k ∈ S, w.heap.size ≤ k) ∧ Below w.heap.size w w'
set_option maxHeartbeats 1600000 in
theorem toDisk_any (d : DiskV) (v : Value) (w : World) (h0 : d.safe.length ≤ 1048576) (h1 : d.soft.length ≤ 1048576) (h : DiskRd w v d) :
    Calls Try.prog 6 #[v] w fun e w' => RetOwn d w e w' := by
  obtain ⟨v0, v1, rfl, ⟨a0, c0, rfl, i0, _⟩, ⟨a1, c1, rfl, i1, _⟩⟩ := h
  obtain ⟨safe, soft, fuse, down⟩ := d
  simp only at h0 h1 i0 i1 ⊢
  have HA := hide (fun W (b : Below w.heap.size w W) => toByteS_own W a0 c0 safe h0 (i0.up b))
  have HB := hide (fun W (b : Below w.heap.size w W) => toByteS_own W a1 c1 soft h1 (i1.up b))
  clear i0 i1
  go_enter Try.func6, Try.ntmps6
  go_wp2_with fail
  refine (unhide HA _ (by go_grown)).mono ?_
  rintro e w1 ⟨rfl, o1, z1, b1⟩
  have O1 := hide o1
  have B1 := hide (show Below w.heap.size w w1 from Below.trans (by go_grown) (b1.mono (by simp; omega)))
  obtain ⟨hc, hf⟩ := bcell b1
  clear o1 b1
  simp at z1
  have O1' := hide (show ByOwn [w.heap.size + 1 + 1 + 1] w1 (.slice (some ⟨w.heap.size + 1 + 1 + 1, 0, none⟩) safe.length safe.length) safe by simpa using unhide O1)
  clear O1
  go_wp2_with fail
  have B1s := hide (show Below w.heap.size w (w1.setCell ⟨w.heap.size + 1 + 1, 0, none⟩ (.slice (some ⟨w.heap.size + 1 + 1 + 1, 0, none⟩) safe.length safe.length)) from (unhide B1).setCell (by simp; omega) _)
  refine (unhide HB _ (unhide B1s)).mono ?_
  rintro e w2 ⟨rfl, o2, z2, b2⟩
  have O2 := hide o2
  have O12 := hide (show ByOwn [w.heap.size + 1 + 1 + 1] w2 (.slice (some ⟨w.heap.size + 1 + 1 + 1, 0, none⟩) safe.length safe.length) safe from
    ((unhide O1').turn ((Turn.refl [w.heap.size + 1 + 1] w1).setCell (by simp) 0 _) (by simp)).up b2)
  have B2 := hide ((unhide B1s).trans (b2.mono (unhide B1s).size))
  obtain ⟨hc2, hf2⟩ := bcell b2
  simp at z2 O2
  clear o2 b2
  have za : w.heap.size < w1.heap.size := by omega
  have zb : w.heap.size + 1 < w1.heap.size := by omega
  have zc : w.heap.size + 1 + 1 < w1.heap.size := by omega
  have r0 : ∀ i, i < 4 → ∃ x, w2.cell? ⟨w.heap.size + 1, i, none⟩ = some x := by
    intro i hi
    rw [hc2 _ _ (by simp; omega), World.cell?_setCell_other _ _ _ _ (by simp), hc _ _ (by simp), World.cell?_alloc_past _ _ _ (by simp), World.cell?_alloc_at _ _ _ _ (by simp)]
    match i, hi with
    | 0, _ => exact ⟨_, rfl⟩
    | 1, _ => exact ⟨_, rfl⟩
    | 2, _ => exact ⟨_, rfl⟩
    | 3, _ => exact ⟨_, rfl⟩
  obtain ⟨q0, r0'⟩ := r0 0 (by omega)
  obtain ⟨q1, r1'⟩ := r0 1 (by omega)
  obtain ⟨q2, r2'⟩ := r0 2 (by omega)
  obtain ⟨q3, r3'⟩ := r0 3 (by omega)
  clear r0
  go_wp2_with fail
  refine bodyPost_ret (v := .agg #[.slice (some ⟨w.heap.size + 1 + 1 + 1, 0, none⟩) safe.length safe.length, .slice (some ⟨w1.heap.size, 0, none⟩) soft.length soft.length, .int .i64 fuse, .bool down]) (by simp [results, Try.results6, go_sem, r0', r1', r2', r3']) rfl ?_
  have key : ∀ W, Turn [w.heap.size + 1, w.heap.size + 1 + 1] w2 W → RetOwn ⟨safe, soft, fuse, down⟩ w (.returned (.agg #[.slice (some ⟨w.heap.size + 1 + 1 + 1, 0, none⟩) safe.length safe.length, .slice (some ⟨w1.heap.size, 0, none⟩) soft.length soft.length, .int .i64 fuse, .bool down])) W := fun W ht =>
    ⟨_, [w.heap.size + 1 + 1 + 1] ++ [w1.heap.size], rfl, ⟨_, _, [w.heap.size + 1 + 1 + 1], [w1.heap.size], rfl, rfl, (unhide O12).turn ht (fun k hk hm => by simp at hk hm; omega), (unhide O2).turn ht (fun k hk hm => by simp at hk hm; omega), fun k hk hm => by simp at hk hm; omega⟩, fun k hk => by simp at hk; omega,
      (unhide B2).trans (ht.below (unhide B2).size (fun k hk => by simp at hk; omega))⟩
  exact key _ ((((((((Turn.refl _ _).setCell (by simp) _ _).setCell (by simp) _ _).setCell (by simp) _ _).setCell (by simp) _ _).setCell (by simp) _ _).setCell (by simp) _ _).setCell (by simp) _ _)

set_option maxHeartbeats 1600000 in
theorem eqDisk_same (d : DiskV) (v v' : Value) (w : World) (h0 : d.safe.length ≤ maxLen) (h1 : d.soft.length ≤ maxLen) (h : DiskRd w v d) (h' : DiskRd w v' d) :
    Calls Try.prog 8 #[v, v'] w fun e w' => e = .returned (.bool true) ∧ Below w.heap.size w w' := by
  obtain ⟨v0, v1, rfl, i0, i1⟩ := h
  obtain ⟨v0', v1', rfl, i0', i1'⟩ := h'
  obtain ⟨safe, soft, fuse, down⟩ := d
  simp only at h0 h1 i0 i1 i0' i1' ⊢
  have HA := hide (fun W (b : Below w.heap.size w W) => eqByteS_same W v0 v0' safe h0 (i0.up b) (i0'.up b))
  have HB := hide (fun W (b : Below w.heap.size w W) => eqByteS_same W v1 v1' soft h1 (i1.up b) (i1'.up b))
  obtain ⟨a0, c0, rfl⟩ := i0.len
  obtain ⟨a1, c1, rfl⟩ := i1.len
  obtain ⟨a0', c0', rfl⟩ := i0'.len
  obtain ⟨a1', c1', rfl⟩ := i1'.len
  clear i0 i1 i0' i1' h0 h1
  go_enter Try.func8, Try.ntmps8
  go_wp2_with fail
  refine (unhide HA _ (by go_grown)).mono ?_
  rintro e w1 ⟨rfl, b1⟩
  have B1 := hide (show Below w.heap.size w w1 from Below.trans (by go_grown) (b1.mono (by simp; omega)))
  have z1 : w.heap.size + 1 < w1.heap.size := by have := b1.size; simp at this; omega
  have z0 : w.heap.size < w1.heap.size := by omega
  obtain ⟨hc, hf⟩ := bcell b1
  clear b1
  go_wp2_with fail
  refine (unhide HB _ (unhide B1)).mono ?_
  rintro e w2 ⟨rfl, b2⟩
  have B2 := hide ((unhide B1).trans (b2.mono (unhide B1).size))
  obtain ⟨hc2, hf2⟩ := bcell b2
  clear b2
  go_wp2_with fail
  go_ret
  exact ⟨rfl, unhide B2⟩

theorem cellsI : Try.prog.cellsOf 3 = 1 := by kernel_rfl
theorem cellsBool : Try.prog.cellsOf 4 = 1 := by kernel_rfl
theorem cellsBy : Try.prog.cellsOf 22 = 1 := by kernel_rfl
theorem intRange {k : Int} (h : (Lit.int .i64 k).wf = true) : -9223372036854775808 ≤ k ∧ k ≤ 9223372036854775807 := bounds_i64 h
theorem aggOf {P : Program} {W : World} {r : Reach} {base n : Nat} {t : TypeId} {fs : Array Field} {v : Value} (ht : P.underlying t = some (.struct fs)) (hn : P.cellsOf t = n) (h : Value.okWide P W r base t v) : ∃ cs : Array Value, v = .agg cs ∧ cs.size = n := by
  simp only [Value.okWide, ht] at h
  obtain ⟨cs, h1, h2, _⟩ := h
  exact ⟨cs, h1, by rw [h2, hn]⟩
theorem array4 {cs : Array Value} (h : cs.size = 4) : ∃ a b c d, cs = #[a, b, c, d] := by
  obtain ⟨l⟩ := cs
  match l, h with
  | [a, b, c, d], _ => exact ⟨a, b, c, d, rfl⟩
theorem cellsDisk : Try.prog.cellsOf 24 = 4 := by kernel_rfl
set_option maxRecDepth 20000 in
theorem openDisk {H : Type} {enc : TypeId × Value → H} {w : World} {base : Nat} {spare : Nat → Bool} {held : Bool} {c0 c1 c2 c3 : Value} {d : DataW H} {p : List MemPlace}
    (h : DataW.Trod enc Try.prog w base spare held 24 (.agg #[c0, c1, c2, c3]) d p) : ∃ r : DiskV, DiskRd w (.agg #[c0, c1, c2, c3]) r ∧ DiskFit r := by
  obtain ⟨fuel, hf⟩ := h
  obtain ⟨xs, k, hk, hxy, _, hxl, hf⟩ := DataW.trod_struct Try.underlying24 hf
  match xs, hxl with
  | [y0, y1, y2, y3], _ =>
    have g0 := hf 0 _ rfl
    have g1 := hf 1 _ rfl
    have g2 := hf 2 _ rfl
    have g3 := hf 3 _ rfl
    simp [Value.cells, cellsI, cellsBool, cellsBy] at g0 g1 g2 g3
    obtain ⟨a0, cap0, bs0, rfl, l0, k0, r0⟩ := open_byte_cell g0
    obtain ⟨a1, cap1, bs1, rfl, l1, k1, r1⟩ := open_byte_cell g1
    obtain ⟨n2, e2, _, hs2⟩ := DataW.trod_int Try.underlying3 g2
    obtain ⟨n3, e3, _⟩ := DataW.trod_bool Try.underlying4 g3
    simp at e2 e3
    subst e2 e3
    exact ⟨⟨bs0, bs1, n2, n3⟩, ⟨_, _, rfl, ⟨_, _, rfl, r0, k0⟩, ⟨_, _, rfl, r1, k1⟩⟩, l0, l1⟩

/-- the marks from k on, over a disk -/
def diskMarks (k : Nat) (d : DiskV) : DiskV := ⟨byMarks k d.safe.length, byMarks (k + d.safe.length) d.soft.length, d.fuse, d.down⟩
set_option maxHeartbeats 1600000 in
theorem markDisk_any (S : List Nat) (w : World) (v : Value) (d : DiskV) (k : Nat) (hk : k ≤ 1000000000) (h0 : d.safe.length ≤ 1048576) (h1 : d.soft.length ≤ 1048576) (h : DiskOwn S w v d) :
    Calls Try.prog 10 #[v, .int .i64 (k : Int)] w fun e w' => e = .returned (.int .i64 ((k + d.safe.length + d.soft.length : Nat) : Int)) ∧ Hid (DiskOwn S w' v (diskMarks k d) ∧ Turn S w w') := by
  obtain ⟨v0, v1, S0, S1, rfl, rfl, o0, o1, hd⟩ := h
  obtain ⟨safe, soft, fuse, down⟩ := d
  simp only at h0 h1 o0 o1 ⊢
  have HA := hide (fun W (b : Below w.heap.size w W) => markByteS_any S0 W v0 safe k (by omega) h0 (o0.up b))
  have HB := hide (fun W (o : ByOwn S1 W v1 soft) => markByteS_any S1 W v1 soft (k + safe.length) (by omega) h1 o)
  obtain ⟨a0, c0, rfl⟩ := o0.rd.len
  obtain ⟨a1, c1, rfl⟩ := o1.rd.len
  have hl0 := o0.lt
  have hl1 := o1.lt
  have O0 := hide o0
  have O1 := hide o1
  clear o0 o1
  have n0 : w.heap.size ∉ S0 := fun h => Nat.lt_irrefl _ (hl0 _ h)
  go_enter Try.func10, Try.ntmps10
  go_wp2_with fail
  refine (unhide HA _ (by go_grown)).mono ?_
  rintro e w1 ⟨rfl, P1⟩
  have T1 := hide (unhide P1).2
  have x1 := (unhide P1).2.cell (g := w.heap.size) (i := 1) (by simp) n0
  rw [World.cell?_alloc_at _ _ _ _ rfl] at x1
  have x1' : w1.cell? ⟨w.heap.size, 1, none⟩ = some (.slice a1 soft.length c1) := x1
  clear x1
  have O1' := hide (((unhide O1).turn ((Turn.refl [] w).alloc _) (by simp)).turn (unhide T1) (fun k hk hm => hd k hm hk))
  go_wp2_with fail
  refine (unhide HB _ (unhide O1')).mono ?_
  rintro e w2 ⟨rfl, P2⟩
  have HP := hide (show DiskOwn (S0 ++ S1) w2 (.agg #[.slice a0 safe.length c0, .slice a1 soft.length c1, .int .i64 fuse, .bool down]) (diskMarks k ⟨safe, soft, fuse, down⟩) ∧ Turn (S0 ++ S1) w w2 from by
    refine ⟨⟨_, _, S0, S1, rfl, rfl, (unhide P1).1.turn (unhide P2).2 hd, (unhide P2).1, hd⟩, ?_⟩
    refine ((Turn.refl _ w).alloc _).trans (((unhide T1).mono (fun k hk => .inl (by simp [hk]))).trans ((unhide P2).2.mono (fun k hk => .inl (by simp [hk])))))
  clear P1 P2 T1
  go_wp2_with fail
  go_ret
  exact ⟨rfl, HP⟩
set_option maxHeartbeats 1600000 in
theorem heldDisk_any (w : World) (v : Value) (d : DiskV) (k : Nat) (hk : k ≤ 1000000000) (h0 : d.safe.length ≤ 1048576) (h1 : d.soft.length ≤ 1048576) (h : DiskRd w v (diskMarks k d)) :
    Calls Try.prog 12 #[v, .int .i64 (k : Int)] w fun e w' => e = .returned (.int .i64 ((k + d.safe.length + d.soft.length : Nat) : Int)) ∧ Below w.heap.size w w' := by
  obtain ⟨v0, v1, rfl, o0, o1⟩ := h
  obtain ⟨safe, soft, fuse, down⟩ := d
  simp only [diskMarks] at h0 h1 o0 o1 ⊢
  have HA := hide (fun W (b : Below w.heap.size w W) => heldByteS_any W v0 safe.length k (by omega) h0 (o0.up b))
  have HB := hide (fun W (b : Below w.heap.size w W) => heldByteS_any W v1 soft.length (k + safe.length) (by omega) h1 (o1.up b))
  obtain ⟨a0, c0, rfl⟩ := o0.len
  obtain ⟨a1, c1, rfl⟩ := o1.len
  have g0 : ¬ ((k + safe.length : Nat) : Int) < 0 := by omega
  have g1 : ¬ ((k + safe.length + soft.length : Nat) : Int) < 0 := by omega
  clear o0 o1
  go_enter Try.func12, Try.ntmps12
  go_wp2_with fail
  refine (unhide HA _ (by go_grown)).mono ?_
  rintro e w1 ⟨rfl, rfl⟩
  go_wp2_with fail
  refine (unhide HB _ (by go_grown)).mono ?_
  rintro e w2 ⟨rfl, rfl⟩
  go_wp2_with fail
  go_ret
  exact ⟨rfl, by go_grown⟩
end Go.Proofs.Ythlcgghilmpboaa
