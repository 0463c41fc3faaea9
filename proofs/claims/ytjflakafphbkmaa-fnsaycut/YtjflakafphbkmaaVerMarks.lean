/-
  Marks over a list of versions, written and found again; over a word.
-/
import Derived.Test.YtjflakafphbkmaaSays
import Derived.Test.YtjflakafphbkmaaMarkText
import Derived.Deep.RegionHeld3
set_option linter.unusedVariables false
namespace Go.Proofs.Ytjflakafphbkmaa
open Go.RowKit Go.Maps Go.Deep

/-- the marks from k on -/
def vMark (k : Nat) (j : Nat) : VerV := ⟨mText ((k + 2 * j : Nat) : Int), ((k + 2 * j + 1 : Nat) : Int)⟩
def marksVer (k n : Nat) : List VerV := (List.range n).map (vMark k)
theorem marksVer_len (k n : Nat) : (marksVer k n).length = n := by simp [marksVer]
theorem marksVer_get (k n i : Nat) (h : i < (marksVer k n).length) : (marksVer k n)[i] = vMark k i := by simp [marksVer]
def markVTo (ns : List VerV) (k j : Nat) : List VerV := marksVer k j ++ ns.drop j
theorem markVTo_len (ns : List VerV) (k j : Nat) (h : j ≤ ns.length) : (markVTo ns k j).length = ns.length := by simp [markVTo, marksVer_len]; omega
theorem markVTo_step (ns : List VerV) (k j : Nat) (h : j < ns.length) : (markVTo ns k j).set j (vMark k j) = markVTo ns k (j + 1) := by
  unfold markVTo marksVer
  rw [List.range_succ, List.map_append, List.set_append_right _ _ (by simp)]
  simp only [List.length_map, List.length_range, Nat.sub_self]
  rw [List.append_assoc]
  congr 1
  rw [List.drop_eq_getElem_cons h]
  rfl
theorem markVTo_all (ns : List VerV) (k : Nat) : markVTo ns k ns.length = marksVer k ns.length := by simp [markVTo]
theorem VerAt.set {w : World} {b off : Nat} {ns : List VerV} (h : VerAt w b off ns) (j : Nat) (hj : j < ns.length) (t : ByteArray) (x : Int) :
    VerAt ((w.setCell ⟨b, off + j * 2, none⟩ (.string t)).setCell ⟨b, off + j * 2 + 1, none⟩ (.int .i64 x)) b off (ns.set j ⟨t, x⟩) := by
  have ne : ∀ (X : World) (p q : Nat) (v : Value), p ≠ q → (X.setCell ⟨b, q, none⟩ v).cell? ⟨b, p, none⟩ = X.cell? ⟨b, p, none⟩ := fun X p q v h => World.cell?_setCell_other _ _ _ _ (by intro e; have := congrArg Addr.off e; simp only at this; omega)
  intro i hi
  rw [List.length_set] at hi
  obtain ⟨c0, c1⟩ := h i hi
  by_cases e : i = j
  · subst e
    rw [List.getElem_set_self]
    refine ⟨?_, ?_⟩
    · rw [ne _ _ _ _ (by omega)]
      exact World.cell?_setCell_same _ _ _ c0
    · exact World.cell?_setCell_same _ _ _ (by rw [ne _ _ _ _ (by omega)]; exact c1)
  · rw [List.getElem_set_ne (fun h => e h.symm)]
    refine ⟨?_, ?_⟩
    · rw [ne _ _ _ _ (by omega), ne _ _ _ _ (by omega)]; exact c0
    · rw [ne _ _ _ _ (by omega), ne _ _ _ _ (by omega)]; exact c1
end Go.Proofs.Ytjflakafphbkmaa
