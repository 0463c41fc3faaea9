/-
  strconv.Itoa by the shelf's contract, at every number; the table that it reads.
-/
import Derived.Test.YtiebfcefmdiajaaGreatDoorShelfA
import Derived.Test.YtiebfcefmdiajaaGreatDoorDec13
import Derived.Lib.LaidTab
import Derived.WalkSmall
set_option linter.unusedVariables false
namespace Go.Proofs.YtiebfcefmdiajaaGreatDoor
open Go.RowKit Go.Maps

theorem below_grown_dn (B : Nat) (w : World) (q : Nat) (os : Array Obj) (hB : B ≤ w.heap.size) : Below B w (Sort.grow (w.drewN q) os) := by
  refine ⟨rfl, rfl, rfl, ?_, fun i hi => ?_⟩
  · simp [Sort.grow]
  · have h : i < (w.drewN q).heap.size := Nat.lt_of_lt_of_le hi hB
    simp only [Sort.grow, Array.getElem?_append_left h]
    rfl
theorem gPow : Tryz.prog.globalNamed "internal/strconv.uint64pow10" = some 2 := by kernel_rfl
theorem lt_of_cellP {w : World} {b off : Nat} {v : Value} (h : w.cell? ⟨b, off, none⟩ = some v) : b < w.heap.size := by
  by_cases hb : b < w.heap.size
  · exact hb
  · exfalso
    have : w.heap[b]? = none := Array.getElem?_eq_none (by omega)
    simp [World.cell?, this] at h
theorem tab_below {w w' : World} {B : Nat} (h : Lib.TabIs Tryz.prog w "internal/strconv.uint64pow10" .u64 Lib.pow10Tab) (hb : Below B w w') (hB : w.heap.size ≤ B) : Lib.TabIs Tryz.prog w' "internal/strconv.uint64pow10" .u64 Lib.pow10Tab := by
  have hc := Lib.TabIs.cell h gPow 0 (by decide)
  have hl := lt_of_cellP hc
  exact var?_below hb gPow (Nat.lt_of_lt_of_le hl hB) h
def PowIn (w : World) : Prop := Lib.TabIs Tryz.prog w "internal/strconv.uint64pow10" .u64 Lib.pow10Tab
theorem PowIn.below {w w' : World} {B : Nat} (h : PowIn w) (hb : Below B w w') (hB : w.heap.size ≤ B) : PowIn w' := tab_below h hb hB
theorem itoa_any (n : Int) (h0 : -9223372036854775808 ≤ n) (h1 : n ≤ 9223372036854775807) (w : World) (h : PowIn w) : Calls Tryz.prog 52 #[.int .i64 n] w fun e w' => e = .returned (.string (itoaB n)) ∧ Below w.heap.size w w' := by
  refine (Tryz.strconv_Itoa n h0 h1 w h).mono ?_
  rintro e w' ⟨rfl, kk, os, rfl⟩
  exact ⟨rfl, below_grown_dn _ _ _ _ (Nat.le_refl _)⟩

end Go.Proofs.YtiebfcefmdiajaaGreatDoor
