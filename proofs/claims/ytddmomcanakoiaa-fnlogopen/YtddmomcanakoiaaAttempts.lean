/-
  An attempt on a disk at work: the step that burns the fuse, and what catches its panic.
-/
import Derived.Test.YtddmomcanakoiaaDrives
import Derived.Defers
import Derived.Recover
import Derived.Laws.Pointers
set_option linter.unusedVariables false
namespace Go.Proofs.Ytddmomcanakoiaa
open Go.RowKit Go.Maps Go.Deep

def fallenChain : List PanicEntry := [{ v := .iface 115 (.agg #[]), recovered := false }]
theorem Drive.fuse {B : Nat} {w : World} {g : Nat} {v0 v1 : Value} {d : DiskV} (h : Drive B w g v0 v1 d) (x : Int) : Drive B (w.setCell ⟨g, 2, none⟩ (.int .i64 x)) g v0 v1 { d with fuse := x } := by
  have ht : Turn [g] w (w.setCell ⟨g, 2, none⟩ (.int .i64 x)) := (Turn.refl [g] w).setCell (by simp) 2 _
  have ne : ∀ i, i ≠ 2 → (w.setCell ⟨g, 2, none⟩ (.int .i64 x)).cell? ⟨g, i, none⟩ = w.cell? ⟨g, i, none⟩ := fun i h => World.cell?_setCell_other _ _ _ _ (by intro e; have := congrArg Addr.off e; simp only at this; omega)
  refine ⟨h.le, by simpa using h.lt, (ne 0 (by omega)).trans h.c0, (ne 1 (by omega)).trans h.c1, World.cell?_setCell_same _ _ _ h.c2, (ne 3 (by omega)).trans h.c3, fun i hi => by rw [World.frozen?_setCell]; exact h.soft i hi, ?_, ?_, h.n0, h.n1, h.n01⟩
  · exact h.r0.turn ht (fun k hk hm => h.n0 k hk (by simpa using hm))
  · exact h.r1.turn ht (fun k hk hm => h.n1 k hk (by simpa using hm))
theorem step_gone (B : Nat) (w : World) (g gw : Nat) (v0 v1 : Value) (d : DiskV) (h : Drive B w g v0 v1 d) (hw : w.cell? ⟨gw, 0, none⟩ = some (.pointer (some ⟨g, 0, none⟩))) (hf : d.fuse = 0) :
    Calls Try.prog 78 #[.pointer (some ⟨gw, 0, none⟩)] w fun e w' => e = .panicked fallenChain ∧ w' = w := by
  have c2 := h.c2
  rw [hf] at c2
  clear h hf
  go_enter Try.func78, Try.ntmps78
  go_wp2
  exact ⟨rfl, rfl, rfl⟩
theorem step_none (B : Nat) (w : World) (g gw : Nat) (v0 v1 : Value) (d : DiskV) (h : Drive B w g v0 v1 d) (hw : w.cell? ⟨gw, 0, none⟩ = some (.pointer (some ⟨g, 0, none⟩))) (hf : d.fuse = -1) :
    Calls Try.prog 78 #[.pointer (some ⟨gw, 0, none⟩)] w fun e w' => e = .returned (.tuple #[]) ∧ w' = w := by
  have c2 := h.c2
  rw [hf] at c2
  clear h hf
  go_enter Try.func78, Try.ntmps78
  go_wp2
  go_end0
  exact ⟨rfl, rfl⟩
theorem step_burn (B : Nat) (w : World) (g gw : Nat) (v0 v1 : Value) (d : DiskV) (h : Drive B w g v0 v1 d) (hw : w.cell? ⟨gw, 0, none⟩ = some (.pointer (some ⟨g, 0, none⟩))) (hf : 0 < d.fuse) (hf2 : d.fuse ≤ 400) :
    Calls Try.prog 78 #[.pointer (some ⟨gw, 0, none⟩)] w fun e w' => e = .returned (.tuple #[]) ∧ w' = w.setCell ⟨g, 2, none⟩ (.int .i64 (d.fuse - 1)) := by
  have c2 := h.c2
  have f2 := h.soft 2 (by omega)
  have q0 : (d.fuse == 0) = false := by rw [beq_eq_false_iff_ne]; omega
  have q1 : (d.fuse == -1) = false := by rw [beq_eq_false_iff_ne]; omega
  clear h
  generalize d.fuse = x at *
  go_enter Try.func78, Try.ntmps78
  go_wp2
  go_end0
  exact ⟨rfl, rfl⟩
theorem wpS_plain {P : Program} {c : Code} {Q : Exit → Act → List Frame → World → Prop} {a : Act} {cs : List Frame} {w : World} (h : ∀ Q' : Exit → Act → World → Prop, (∀ e a' w', Q e a' cs w' → Q' e a' w') → c.wp P Q' a w) : c.wpS P Q a cs w := wpS_of_wp (h _ (fun _ _ _ h => h))
set_option maxHeartbeats 3200000 in
/-- the deferred closure of a frame that returns: nothing to catch -/
theorem catch_idle (p q : Addr) (w : World) :
    CallsD Try.prog 76 #[.pointer (some p), .pointer (some q)] .returning w fun e u' w' => e = .returned (.tuple #[]) ∧ u' = .returning ∧ w' = w := by
  refine callsD_of_wpS Try.func76 rfl fun c₀ cs hu => ?_
  simp only [Try.ntmps76, List.size_toArray, List.length_cons, List.length_nil, Nat.reduceAdd, Nat.reduceSub, Array.replicate_succ, Array.replicate_zero, List.push_toArray, List.append_toArray, List.nil_append, List.cons_append]
  apply wpS_seq
  apply wpS_region
  simp [wpOpsS, go_sem, recoverD, hu, Exit.thenS]
  refine wpS_plain fun Q' hk => ?_
  have HK := hide hk
  clear hk
  go_wp2_with fail
  refine unhide HK _ _ _ ?_
  cases c₀
  simp_all [bodyPostS, results, Try.results76]
theorem hAssert (w : World) : (Instr.typeAssert (.iface 115 (.agg #[])) 20 115 true).run Try.prog w = .ok (.tuple #[.agg #[], .bool true]) w := by kernel_rfl
theorem row_apart {B : Nat} {w : World} {v : Value} {bs : List UInt8} {g : Nat} {arr : Array Value} {T : TypeId} (h : w.heap[g]? = some (.cells arr T)) (hr : ByRow B w v bs) (hT : T ≠ 5) : v.ownBlock ≠ some g := by
  intro e
  rcases hr with ⟨_, ⟨rfl, h0⟩ | ⟨g', cap, cur, rfl, hB, hg, hnc, _⟩⟩
  · simp [Value.ownBlock] at e
  · simp [Value.ownBlock] at e
    subst e
    rw [hg] at h
    simp at h
    exact hT h.2.symm
theorem Drive.turn {B : Nat} {S : List Nat} {w w' : World} {g : Nat} {v0 v1 : Value} {d : DiskV} (h : Drive B w g v0 v1 d) (ht : Turn S w w') (hg : g ∉ S) (h0 : ∀ k, v0.ownBlock = some k → k ∉ S) (h1 : ∀ k, v1.ownBlock = some k → k ∉ S) : Drive B w' g v0 v1 d :=
  ⟨h.le, Nat.lt_of_lt_of_le h.lt ht.size, (ht.cell h.lt hg).trans h.c0, (ht.cell h.lt hg).trans h.c1, (ht.cell h.lt hg).trans h.c2, (ht.cell h.lt hg).trans h.c3, fun i hi => (ht.frozen h.lt hg).trans (h.soft i hi), h.r0.turn ht h0, h.r1.turn ht h1, h.n0, h.n1, h.n01⟩
def fellD (d : DiskV) : DiskV := ⟨d.safe ++ d.soft, [], -1, true⟩
theorem Keeps.cell {g : Nat} {v0 : Value} {w w' : World} (h : Keeps g v0 w w') {k i : Nat} (hk : k < w.heap.size) (hg : k ≠ g) (hv : v0.ownBlock ≠ some k) : w'.cell? ⟨k, i, none⟩ = w.cell? ⟨k, i, none⟩ ∧ w'.frozen? ⟨k, i, none⟩ = w.frozen? ⟨k, i, none⟩ :=
  ⟨World.cell?_of_block (w := w) (a := ⟨k, i, none⟩) (h k hk hg hv), World.frozen?_of_block (w := w) (a := ⟨k, i, none⟩) (h k hk hg hv)⟩
def Caught (B g gc : Nat) (d : DiskV) (w w' : World) : Prop := ∃ v, Drive B w' g v (.slice none 0 0) (fellD d) ∧ Below B w w' ∧ w'.cell? ⟨gc, 0, none⟩ = some (.int .i64 2)
set_option maxHeartbeats 6400000 in
theorem catch_fallen (B : Nat) (g gw gc : Nat) (v0 v1 : Value) (d : DiskV) (x : Int) (w : World) (hl : d.safe.length + d.soft.length ≤ 100000) (hB : B ≤ w.heap.size) (h : Drive B w g v0 v1 d)
    (hw : w.cell? ⟨gw, 0, none⟩ = some (.pointer (some ⟨g, 0, none⟩))) (hc : w.cell? ⟨gc, 0, none⟩ = some (.int .i64 x)) (hz : w.frozen? ⟨gc, 0, none⟩ = false) (hgz : gc < w.heap.size) (hgB : B ≤ gc) (hgg : gc ≠ g) (arr : Array Value) (T : TypeId) (hgT : w.heap[gc]? = some (.cells arr T)) (hT : T ≠ 5) :
    CallsD Try.prog 76 #[.pointer (some ⟨gw, 0, none⟩), .pointer (some ⟨gc, 0, none⟩)] (.panicking fallenChain) w fun e u' w' =>
      e = .returned (.tuple #[]) ∧ u' = .panicking [{ v := .iface 115 (.agg #[]), recovered := true }] ∧ Caught B g gc d w w' := by
  unfold fallenChain
  have hA := hAssert
  have hgv : v0.ownBlock ≠ some gc := row_apart hgT h.r0 hT
  have bA := (Below.refl w.heap.size w).alloc (Nat.le_refl _) (.cells #[] 115)
  have D1 := hide (h.up bA)
  obtain ⟨a1, e1, rfl⟩ := h.r1.slice
  have hw1 : (w.alloc (.cells #[] 115)).cell? ⟨gw, 0, none⟩ = some (.pointer (some ⟨g, 0, none⟩)) := (bA.cell (by exact lt_of_cell0 hw)).trans hw
  have hg1 := (unhide D1).c1
  have HG := hide (show (w.alloc (.cells #[] 115)).cell? ⟨gc, 0, none⟩ = some (.int .i64 x) ∧ (w.alloc (.cells #[] 115)).frozen? ⟨gc, 0, none⟩ = false from ⟨(bA.cell (by exact hgz)).trans hc, (bA.frozen (by exact hgz)).trans hz⟩)
  have HF := hide (show ∀ W : World, (∀ k : Nat, W.heap[k]? = (w.alloc (.cells #[] 115)).heap[k]?) → W.heap.size = (w.alloc (.cells #[] 115)).heap.size → True from fun _ _ _ => trivial)
  have hzA := hide (show gc < (w.alloc (.cells #[] 115)).heap.size by simp; omega)
  have hBA := hide (show B ≤ (w.alloc (.cells #[] 115)).heap.size by simp; omega)
  have B0 := hide ((Below.refl B w).alloc hB (.cells #[] 115))
  have HGT := hide (show (w.alloc (.cells #[] 115)).heap[gc]? = some (.cells arr T) from (bA.block gc hgz).trans hgT)
  clear h hw hc hz bA HF hgT
  refine callsD_of_wpS Try.func76 rfl fun c₀ cs hu => ?_
  simp only [Try.ntmps76, List.size_toArray, List.length_cons, List.length_nil, Nat.reduceAdd, Nat.reduceSub, Array.replicate_succ, Array.replicate_zero, List.push_toArray, List.append_toArray, List.nil_append, List.cons_append]
  apply wpS_seq
  apply wpS_region
  simp [wpOpsS, go_sem, recoverD, hu, Exit.thenS]
  refine wpS_of_wp ?_
  go_wp2_with fail
  generalize (w.alloc (.cells #[] 115)) = W at *
  have DW := hide (show Drive B W.drew g v0 (.slice a1 d.soft.length e1) d from let D := unhide D1; ⟨D.le, D.lt, D.c0, D.c1, D.c2, D.c3, D.soft, D.r0.keep (fun _ _ => rfl), D.r1.keep (fun _ _ => rfl), D.n0, D.n1, D.n01⟩)
  have FALL := hide (fall_more B W.drew g d.soft.length v0 (.slice a1 d.soft.length e1) d (Nat.le_refl _) hl (unhide hBA) (unhide DW))
  rw [List.take_of_length_le (Nat.le_refl _)] at FALL
  go_region_with (go_at_call 77; refine (unhide FALL).mono ?_; rintro e w2 ⟨rfl, P2⟩)
  all_goals
    obtain ⟨v, p1, p2, p3⟩ := unhide P2
    obtain ⟨k1, k2⟩ := p3.cell (i := 0) (unhide hzA) hgg hgv
    have kc : w2.cell? ⟨gc, 0, none⟩ = some (.int .i64 x) := k1.trans (unhide HG).1
    have kf : w2.frozen? ⟨gc, 0, none⟩ = false := k2.trans (unhide HG).2
    have hTT : w2.heap[gc]? = some (.cells arr T) := (p3 gc (unhide hzA) hgg hgv).trans (unhide HGT)
    have PD := hide (show Drive B (w2.setCell ⟨gc, 0, none⟩ (.int .i64 2)) g v (.slice none 0 0) (fellD d) from p1.turn ((Turn.refl [gc] w2).setCell (by simp) 0 _) (by simpa using fun e => hgg e.symm) (fun k hk hm => by simp at hm; subst hm; exact row_apart hTT p1.r0 hT hk) (by simp [Value.ownBlock]))
    clear hTT
    have PB := hide p2
    clear p1 p2 p3 k1 k2 P2
    go_wp2_with fail
    have ht : Turn [gc] w2 (w2.setCell ⟨gc, 0, none⟩ (.int .i64 2)) := (Turn.refl [gc] w2).setCell (by simp) 0 _
    have HP := hide (show Caught B g gc d w (w2.setCell ⟨gc, 0, none⟩ (.int .i64 2)) from
      ⟨v, unhide PD, (unhide B0).trans (Below.trans (Below.drew (Below.refl B W)) ((unhide PB).trans (ht.below (Nat.le_trans (unhide hBA) (unhide PB).size) (by simpa using hgB)))), World.cell?_setCell_same _ _ _ kc⟩)
    exact ⟨rfl, _, rfl, .tuple #[], results_none rfl _ _ _, rfl, rfl, unhide HP⟩
end Go.Proofs.Ytddmomcanakoiaa
