/-
  Cutting a text into words: what is wrong, told to those outside.
-/
import Derived.Test.YtpekcpjlappkgaaDoorAsErr2
import Derived.Test.YtpekcpjlappkgaaDoorBodyI
import Derived.Test.YtpekcpjlappkgaaDoorBodyS2
set_option linter.unusedVariables false
namespace Go.Proofs.YtpekcpjlappkgaaDoor
open Go.RowKit Go.Maps Go.Deep

def ErrG (w : World) : Prop := w.cell? ⟨0, 0, none⟩ = some (.iface 83 (.agg #[.pointer (some ⟨1, 36, none⟩)]))
theorem ErrG.below {w w' : World} {B : Nat} (h : ErrG w) (hb : Below B w w') (hB : w.heap.size ≤ B) : ErrG w' := by
  unfold ErrG at h ⊢
  exact (hb.cell (Nat.lt_of_lt_of_le (lt_of_cell0 h) hB)).trans h
theorem BoxF.duoI {w : World} {g : Nat} {a b : Value} (h : BoxF w g [a, b]) : (w.cell? ⟨g, 0, none⟩ = some a ∧ w.cell? ⟨g, 1, none⟩ = some b) ∧ (w.frozen? ⟨g, 0, none⟩ = false ∧ w.frozen? ⟨g, 1, none⟩ = false) :=
  ⟨⟨h.1.at 0 _ rfl, h.1.at 1 _ rfl⟩, h.2 0 (by simp), h.2 1 (by simp)⟩
theorem BoxF.oneI {w : World} {g : Nat} {a : Value} (h : BoxF w g [a]) : w.cell? ⟨g, 0, none⟩ = some a ∧ w.frozen? ⟨g, 0, none⟩ = false := ⟨h.1.at 0 _ rfl, h.2 0 (by simp)⟩
/-- errors.As for the place, in plain words -/
theorem as_place (c a : Int) (t : Nat) (w : World) (hg : ErrG w) (hb : BoxF w t [.int .i64 0, .nilIface]) :
    Calls Tryd.prog 25 #[errV c a, .iface 59 (.pointer (some ⟨t, 0, none⟩))] w fun e w' => e = .returned (.bool true) ∧ Hid (BoxF w' t [.int .i64 a, .iface 57 (.agg #[.int .i64 c])]) ∧ Hid (Turn [t] w w') := by
  obtain ⟨⟨t0, t1⟩, f0, f1⟩ := hb.duoI
  refine (as_hitQ a 57 (.agg #[.int .i64 c]) t _ _ w hg t0 f0 t1 f1).mono ?_
  rintro e w' ⟨rfl, rfl⟩
  have bb : Below w.heap.size w ((((w.alloc (.cells #[.pointer (some ⟨t, 0, none⟩)] 59)).alloc (.cells #[.pointer (some ⟨1, 59, none⟩), .pointer (some ⟨w.heap.size, 0, none⟩), .int .u64 150] 71)).alloc (.cells #[.pointer (some ⟨1, 59, none⟩), .pointer (some ⟨w.heap.size, 0, none⟩), .int .u64 150] 71)).alloc (.cells #[.int .i64 a, .iface 57 (.agg #[.int .i64 c])] 55)) :=
    ((((Below.refl _ w).alloc (Nat.le_refl _) _).alloc (by simp) _).alloc (by simp; omega) _).alloc (by simp; omega) _
  have x := hb.up bb
  have y := (x.set 0 (.int .i64 a) (by simp)).set 1 (.iface 57 (.agg #[.int .i64 c])) (by simp)
  simp only [List.set] at y
  exact ⟨rfl, hide y, hide (((Turn.of_below (S := [t]) bb).setCell (by simp) _ _).setCell (by simp) _ _)⟩
theorem as_wrong (c a : Int) (t : Nat) (w : World) (hg : ErrG w) (hb : BoxF w t [.int .i64 0]) :
    Calls Tryd.prog 25 #[errV c a, .iface 60 (.pointer (some ⟨t, 0, none⟩))] w fun e w' => e = .returned (.bool true) ∧ Hid (BoxF w' t [.int .i64 c]) ∧ Hid (Turn [t] w w') := by
  obtain ⟨t0, f0⟩ := hb.oneI
  refine (as_wrapB a c t _ w hg t0 f0).mono ?_
  rintro e w' ⟨rfl, rfl⟩
  have bb : Below w.heap.size w (((((w.alloc (.cells #[.pointer (some ⟨t, 0, none⟩)] 60)).alloc (.cells #[.pointer (some ⟨1, 60, none⟩), .pointer (some ⟨w.heap.size, 0, none⟩), .int .u64 150] 71)).alloc (.cells #[.pointer (some ⟨1, 60, none⟩), .pointer (some ⟨w.heap.size, 0, none⟩), .int .u64 150] 71)).alloc (.cells #[.int .i64 a, .iface 57 (.agg #[.int .i64 c])] 55)).alloc (.cells #[.int .i64 c] 57)) :=
    (((((Below.refl _ w).alloc (Nat.le_refl _) _).alloc (by simp) _).alloc (by simp; omega) _).alloc (by simp; omega) _).alloc (by simp; omega) _
  have x := hb.up bb
  have y := x.set 0 (.int .i64 c) (by simp)
  simp only [List.set] at y
  exact ⟨rfl, hide y, hide ((Turn.of_below (S := [t]) bb).setCell (by simp) _ _)⟩
set_option maxHeartbeats 3200000 in
theorem faultOf_any (c a : Int) (w : World) (hg : ErrG w) :
    Calls Tryd.prog 12 #[errV c a] w fun e w' => e = .returned (.agg #[.int .i64 c, .int .i64 a]) ∧ Below w.heap.size w w' := by
  have X0 := hide (boxF_new w [.int .i64 0, .int .i64 0] 24)
  have A0 := hide ((Below.refl _ w).alloc (Nat.le_refl _) (.cells #[.int .i64 0, .int .i64 0] 24))
  have bP := (Below.refl _ (w.alloc (.cells #[.int .i64 0, .int .i64 0] 24))).alloc (Nat.le_refl _) (.cells #[.int .i64 0, .nilIface] 55)
  have XP := hide (boxF_new (w.alloc (.cells #[.int .i64 0, .int .i64 0] 24)) [.int .i64 0, .nilIface] 55)
  have bB := (Below.refl _ ((w.alloc (.cells #[.int .i64 0, .int .i64 0] 24)).alloc (.cells #[.int .i64 0, .nilIface] 55))).alloc (Nat.le_refl _) (.cells #[.int .i64 0] 57)
  have XB := hide (boxF_new ((w.alloc (.cells #[.int .i64 0, .int .i64 0] 24)).alloc (.cells #[.int .i64 0, .nilIface] 55)) [.int .i64 0] 57)
  have A2 := hide ((unhide A0).trans ((bP.trans (bB.mono bP.size)).mono (unhide A0).size))
  have XP2 := hide ((unhide XP).up bB)
  have X2 := hide (((unhide X0).up bP).up bB)
  have h1 : (w.alloc (.cells #[.int .i64 0, .int .i64 0] 24)).heap.size = w.heap.size + 1 := by simp
  have h2 : ((w.alloc (.cells #[.int .i64 0, .int .i64 0] 24)).alloc (.cells #[.int .i64 0, .nilIface] 55)).heap.size = w.heap.size + 1 + 1 := by simp
  simp only [List.toArray] at XP2 X2 XB
  rw [h1] at XP2
  rw [h2] at XB
  have HG2 := hide (hg.below (unhide A2) (Nat.le_refl _))
  clear bP bB h1 h2 X0 A0 XP hg
  go_enter Tryd.func12, Tryd.ntmps12
  go_wp2_with fail
  generalize ((w.alloc (.cells #[.int .i64 0, .int .i64 0] 24)).alloc (.cells #[.int .i64 0, .nilIface] 55)).alloc (.cells #[.int .i64 0] 57) = W at *
  refine (as_place c a (w.heap.size + 1) W (unhide HG2) (unhide XP2)).mono ?_
  rintro e w1 ⟨rfl, XP3, T3⟩
  have X3 := hide ((unhide X2).turn (unhide T3) (by simp))
  have XB3 := hide ((unhide XB).turn (unhide T3) (by simp))
  have A3 := hide ((unhide A2).trans ((unhide T3).below (unhide A2).size (by simp)))
  have HG3 := hide (show ErrG w1 from by
    have := unhide HG2
    unfold ErrG at this ⊢
    exact ((unhide T3).cell (lt_of_cell0 this) (by simp)).trans this)
  clear T3 X2 XB A2 HG2 XP2
  go_wp2_with fail
  refine (as_wrong c a (w.heap.size + 1 + 1) w1 (unhide HG3) (unhide XB3)).mono ?_
  rintro e w2 ⟨rfl, XB4, T4⟩
  have X4 := hide ((unhide X3).turn (unhide T4) (by simp; omega))
  have XP4 := hide ((unhide XP3).turn (unhide T4) (by simp))
  have A4 := hide ((unhide A3).trans ((unhide T4).below (unhide A3).size (by simp; omega)))
  clear T4 X3 XP3 XB3 A3 HG3
  obtain ⟨⟨x0, x1⟩, f0, f1⟩ := (unhide X4).duoI
  obtain ⟨⟨p0, p1⟩, -⟩ := (unhide XP4).duoI
  obtain ⟨b0, -⟩ := (unhide XB4).oneI
  go_wp2_with fail
  refine bodyPost_ret (v := .agg #[.int .i64 c, .int .i64 a]) (by simp [results, Tryd.results12, go_sem, x0, x1]) rfl ?_
  refine ⟨rfl, ?_⟩
  (iterate 2 (refine Below.setCell ?_ (by exact Nat.le_refl _) _))
  exact unhide A4
end Go.Proofs.YtpekcpjlappkgaaDoor
