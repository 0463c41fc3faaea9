/-
  WindowLast of the program.
-/
import Derived.Test.YtlbhandkpnjgmaaMerged23
import Derived.Test.YtlbhandkpnjgmaaOwnItem
set_option linter.unusedVariables false
namespace Go.Proofs.Ytlbhandkpnjgmaa
open Go.RowKit Go.Maps Go.Deep

def lastB (ns : List ItemV) : Bool := windowB orderOut ns && decide (ns ≠ [])
def lastI (ns : List ItemV) : ItemV := if windowB orderOut ns = true then ns.getLast?.getD ⟨0, []⟩ else ⟨0, []⟩
theorem lastI_no {ns : List ItemV} (h : windowB orderOut ns = false) : lastB ns = false ∧ lastI ns = ⟨0, []⟩ := by simp [lastB, lastI, h]
theorem lastI_yes {ns : List ItemV} (h : windowB orderOut ns = true) : lastB ns = decide (ns ≠ []) ∧ (lastI ns).a1 = lastM ns := by
  refine ⟨by simp [lastB, h], ?_⟩
  simp only [lastI, h, if_true, lastM]
  cases ns.getLast? <;> rfl
theorem RawIs.lastZ {w : World} {xs : List RawI} {ns : List ItemV} (h : RawIs w xs ns) : (lastOr xs).z = (ns.getLast?.getD ⟨0, []⟩).a0 := by
  unfold lastOr
  rw [List.getLast?_eq_getElem?, List.getLast?_eq_getElem?]
  by_cases hl : xs.length = 0
  · have hn : ns.length = 0 := by rw [← h.1]; exact hl
    have e1 : xs = [] := List.eq_nil_of_length_eq_zero hl
    have e2 : ns = [] := List.eq_nil_of_length_eq_zero hn
    subst e1 e2
    rfl
  · have h1 : xs.length - 1 < xs.length := by omega
    have h2 : ns.length - 1 < ns.length := by have := h.1; omega
    rw [List.getElem?_eq_getElem h1, List.getElem?_eq_getElem h2]
    have e : ns.length - 1 = xs.length - 1 := by rw [h.1]
    have := (h.2 (xs.length - 1) h1 (by rw [← h.1]; exact h1)).1
    simp only [Option.getD_some, e]
    exact this
theorem lastM_fit {ns : List ItemV} (hs : SmallItemS ns) (hw : windowB orderOut ns = true) : SmallMarkS (lastM ns) ∧ (lastM ns).length ≤ 12 := by
  unfold lastM
  rw [List.getLast?_eq_getElem?]
  by_cases hl : ns.length = 0
  · have e2 : ns = [] := List.eq_nil_of_length_eq_zero hl
    subst e2
    exact ⟨⟨⟨by simp, by simp⟩, by intro x hx; simp at hx⟩, by simp⟩
  · have h2 : ns.length - 1 < ns.length := by omega
    rw [List.getElem?_eq_getElem h2]
    simp only [Option.map_some, Option.getD_some]
    refine ⟨(hs.2 _ (List.getElem_mem h2)).2, ?_⟩
    simp only [windowB, Bool.and_eq_true, decide_eq_true_eq] at hw
    have := (hw.2 _ h2 h2).1
    simp only [itemB, mstampB, Bool.and_eq_true, decide_eq_true_eq] at this
    omega
/-- an item of one's own, and a bool, are handed back -/
def RetItem (it : ItemV) (b : Bool) (w : World) (e : Ending) (w' : World) : Prop := ∃ u, e = .returned (.tuple #[.agg #[.int .i64 it.a0, u], .bool b]) ∧ Hid (MkRow w.heap.size w' u it.a1) ∧ Below w.heap.size w w'
set_option maxHeartbeats 3200000 in
theorem implLast_any (ns : List ItemV) (v : Value) (w : World) (hs : SmallItemS ns) (h : ItemSRd w v ns) : Calls Try.prog 8 #[v] w fun e w' => RetItem (lastI ns) (lastB ns) w e w' := by
  have HW := hide (fun W (b : Below w.heap.size w W) => windowOf_any ns v W hs (h.up b))
  have Y0 := hide (boxF_new w [.int .i64 0, .slice none 0 0] 30)
  have HF := hide (fun hw => lastM_fit hs hw)
  obtain ⟨a, n, c, rfl⟩ := h.form
  clear h hs
  go_enter Try.func8, Try.ntmps8
  go_wp2_with fail
  refine (unhide HW _ (by go_grown)).mono ?_
  rintro e w1 ⟨HR, b1⟩
  have Y1 := hide ((unhide Y0).up b1)
  have B1 := hide (show Below w.heap.size w w1 from Below.trans (by go_grown) (b1.mono (by simp)))
  have bA1 := b1
  clear b1 Y0
  rcases unhide HR with ⟨hb, rfl⟩ | ⟨hb, g, xs, rfl, hg, hr, hx⟩
  · have HE := hide (lastI_no hb)
    have y0 := (unhide Y1).1.2 0 _ rfl
    have y1 := (unhide Y1).1.2 1 _ rfl
    have j0 := (unhide Y1).2 0 (by simp)
    have j1 := (unhide Y1).2 1 (by simp)
    have KEY := hide (show ∀ X, Turn [w.heap.size] w1 X → RetItem (lastI ns) (lastB ns) w (.returned (.tuple #[.agg #[.int .i64 0, .slice none 0 0], .bool false])) X from fun X ht => by
      rw [(unhide HE).1, (unhide HE).2]
      exact ⟨_, rfl, hide (MkRow.nil _ _), (unhide B1).trans (ht.below (unhide B1).size (by simp))⟩)
    clear HR hb HW HF HE bA1
    go_wp2_with fail
    refine bodyPost_ret (v := .tuple #[.agg #[.int .i64 0, .slice none 0 0], .bool false]) (by simp [results, Try.results8, go_sem, y0, y1]) rfl ?_
    exact unhide KEY _ (((Turn.refl _ _).setCell (by simp) _ _).setCell (by simp) _ _)
  · have HLA := hide (fun W (b : Below w1.heap.size w1 W) => last_any g 0 xs W (hr.1.up b))
    have HE := hide (lastI_yes hb)
    have HEM := hide (unhide HE).2
    have HEZ := hide (show (lastI ns).a0 = (lastOr xs).z by rw [hx.lastZ]; simp [lastI, hb])
    have HBE := hide (show lastB ns = decide (xs ≠ []) by rw [(unhide HE).1, hx.empty])
    have HZ1 := hide (show (w.alloc (.cells #[.int .i64 0, .slice none 0 0] 30)).heap.size ≤ w1.heap.size by have := hr.1.lt; omega)
    have HOW := hide (fun W (b : Below w.heap.size w W) (bA : Below (w.alloc (.cells #[.int .i64 0, .slice none 0 0] 30)).heap.size (w.alloc (.cells #[.int .i64 0, .slice none 0 0] 30)) W) => ownItem_any (lastOr xs).z (lastOr xs).v (lastM ns) W (unhide HF hb).1 (by have := (unhide HF hb).2; omega) (hx.last.up bA))
    have BA1 := hide bA1
    unfold RawI.v at HOW
    clear HR hb hg hr hx HF HW bA1 HE
    generalize lastOr xs = y at *
    generalize hq : decide (xs ≠ []) = q at *
    clear hq
    go_wp2_with fail
    refine (unhide HLA _ (Below.refl _ _)).mono ?_
    rintro e w2 ⟨rfl, b2⟩
    have bB : Below w2.heap.size w2 (w2.alloc (.cells #[.int .i64 y.z, .slice y.a y.n y.c] 30)) := (Below.refl _ _).alloc (Nat.le_refl _) _
    have N2 := hide (boxF_new w2 [.int .i64 y.z, .slice y.a y.n y.c] 30)
    have b12 := b2.trans (bB.mono b2.size)
    have Y2 := hide ((unhide Y1).up b12)
    have B2 := hide ((unhide B1).trans (b12.mono (unhide B1).size))
    have BA2 := hide ((unhide BA1).trans (b12.mono (unhide BA1).size))
    clear b2 bB b12 Y1 B1
    have n0 := (unhide N2).1.2 0 _ rfl
    have n1 := (unhide N2).1.2 1 _ rfl
    go_wp2_with fail
    refine (unhide HOW _ (unhide B2) (unhide BA2)).mono ?_
    rintro e w3 ⟨u, rfl, R3, b3⟩
    have Y3 := hide ((unhide Y2).up b3)
    have B3 := hide ((unhide B2).trans (b3.mono (unhide B2).size))
    obtain ⟨ua, uc, hu⟩ := MkRow.slice (unhide R3)
    subst hu
    have y0 := (unhide Y3).1.2 0 _ rfl
    have y1 := (unhide Y3).1.2 1 _ rfl
    have j0 := (unhide Y3).2 0 (by simp)
    have j1 := (unhide Y3).2 1 (by simp)
    have KEY := hide (show ∀ X, Turn [w.heap.size] w3 X → RetItem (lastI ns) (lastB ns) w (.returned (.tuple #[.agg #[.int .i64 y.z, .slice ua (lastM ns).length uc], .bool q])) X from fun X ht => by
      have hz := (unhide Y2).1.1
      refine ⟨_, by rw [unhide HEZ, unhide HBE], hide ?_, (unhide B3).trans (ht.below (unhide B3).size (by simp))⟩
      rw [unhide HEM]
      exact MkRow.mono (MkRow.keep (unhide R3) (fun k hk => ht.block k (MkRow.lt (unhide R3) k hk) (fun hm => by have := MkRow.ge (unhide R3) k hk; simp at hm; omega))) (unhide B2).size)
    clear b3 n0 n1
    go_wp2_with fail
    refine bodyPost_ret (v := .tuple #[.agg #[.int .i64 y.z, .slice ua (lastM ns).length uc], .bool q]) (by simp [results, Try.results8, go_sem, y0, y1]) rfl ?_
    exact unhide KEY _ (((Turn.refl _ _).setCell (by simp) _ _).setCell (by simp) _ _)
end Go.Proofs.Ytlbhandkpnjgmaa
