/-
  The program reads a version of a line, loosely.
-/
import Derived.Test.YtiebfcefmdiajaaGreatDoorCutI
import Derived.Test.YtiebfcefmdiajaaGreatDoorLoose
import Derived.Test.YtiebfcefmdiajaaGreatDoorVers10
import Derived.Deep.RegionHeld3
set_option linter.unusedVariables false
namespace Go.Proofs.YtiebfcefmdiajaaGreatDoor
open Go.RowKit Go.Maps Go.Deep

theorem pairV {w : World} {g : Nat} {a b : Value} (h : BoxF w g [a, b]) : (w.cell? ⟨g, 0, none⟩ = some a ∧ w.cell? ⟨g, 1, none⟩ = some b) ∧ (w.frozen? ⟨g, 0, none⟩ = false ∧ w.frozen? ⟨g, 1, none⟩ = false) := ⟨⟨h.1.at 0 _ rfl, h.1.at 1 _ rfl⟩, h.2 0 (by simp), h.2 1 (by simp)⟩
set_option maxRecDepth 20000 in
set_option maxHeartbeats 6400000 in
theorem looseVer_any (s : ByteArray) (w : World) (hs : s.size ≤ 1000) (hE : ErrIn w) :
    Calls Tryz.prog 49 #[.string s] w fun e w' => e = .returned (.agg #[.string (looseVr s.data.toList).a0, .int .i64 (looseVr s.data.toList).a1]) ∧ Below w.heap.size w w' := by
  have HC := hide (fun (W : World) => show Calls Tryz.prog 47 #[.string s, .int .i32 58] W _ from cutAt_any s 58 W hs (by decide))
  have X0 := hide (boxF_new w [.string ⟨#[]⟩, .int .i64 0] 57)
  have A0 := hide ((Below.refl _ w).alloc (Nat.le_refl _) (.cells #[.string ⟨#[]⟩, .int .i64 0] 57))
  have HCL := hide (cut_lenL 58 s.data.toList)
  have hsl : s.data.toList.length ≤ 1000 := by simpa using hs
  have HER := hide hE
  clear hE
  obtain ⟨v0, v1, HV⟩ : ∃ v0 v1, Hid (v0 = (looseVr s.data.toList).a0 ∧ v1 = (looseVr s.data.toList).a1) := ⟨_, _, hide ⟨rfl, rfl⟩⟩
  rw [← (unhide HV).1, ← (unhide HV).2]
  by_cases h2 : (cutB 58 s.data.toList).length = 2
  rotate_left
  · have HX := hide (show v0 = ⟨#[]⟩ ∧ v1 = 0 from by rw [(unhide HV).1, (unhide HV).2]; unfold looseVr; rw [if_neg h2]; exact ⟨rfl, rfl⟩)
    go_enter Tryz.func49, Tryz.ntmps49
    go_wp2_with fail
    refine (unhide HC _).mono ?_
    rintro e w1 ⟨v, rfl, T1, b1⟩
    have B1 := hide ((unhide A0).trans (b1.mono (unhide A0).size))
    have X1 := hide ((unhide X0).up b1)
    obtain ⟨⟨x0, x1⟩, f0, f1⟩ := pairV (unhide X1)
    obtain ⟨va, vc, rfl⟩ := (unhide T1).slice
    rw [List.length_map] at T1 ⊢
    have hne : (((cutB 58 s.data.toList).length : Int) == 2) = false := by rw [beq_eq_false_iff_ne]; omega
    clear b1 T1 HC h2 HCL
    generalize (cutB 58 s.data.toList).length = n at *
    go_wp2_with fail
    refine bodyPost_ret (v := .agg #[.string ⟨#[]⟩, .int .i64 0]) (by simp [results, Tryz.results49, go_sem, x0, x1]) rfl ?_
    exact ⟨by rw [(unhide HX).1, (unhide HX).2], ((unhide B1).setCell (p := ⟨w.heap.size, 0, none⟩) (Nat.le_refl _) _).setCell (p := ⟨w.heap.size, 1, none⟩) (Nat.le_refl _) _⟩
  · match hc : cutB 58 s.data.toList, h2 with
    | [p, q], _ =>
      rw [hc] at HC HCL
      have hql : q.length ≤ 1000 := by have := (unhide HCL).2 q (by simp); omega
      have HX := hide (show v0 = bytL p ∧ v1 = looseV q from by rw [(unhide HV).1, (unhide HV).2]; unfold looseVr; rw [hc]; simp)
      have HN := hide (fun (W : World) (hW : ErrIn W) => loose_any (bytL q) W (by simp [bytL, ByteArray.size]; omega) hW)
      rw [bytL_list] at HN
      clear HCL hc h2
      go_enter Tryz.func49, Tryz.ntmps49
      go_wp2_with fail
      refine (unhide HC _).mono ?_
      rintro e w1 ⟨v, rfl, T1, b1⟩
      have B1 := hide ((unhide A0).trans (b1.mono (unhide A0).size))
      have X1 := hide ((unhide X0).up b1)
      obtain ⟨va, vc, rfl⟩ := (unhide T1).slice
      obtain ⟨-, g, rfl, hg, hcell⟩ := (unhide T1).at (by simp)
      have c0 := hcell 0 (by simp)
      have c1 := hcell 1 (by simp)
      simp only [List.map_cons, List.map_nil, List.getElem_cons_zero, List.getElem_cons_succ, List.length_cons, List.length_nil] at c0 c1 ⊢
      have hgw : g ≠ w.heap.size := by
        have := (unhide T1).ge g rfl
        have := (unhide X0).1.1
        omega
      have E1 := hide ((unhide HER).below (unhide B1) (Nat.le_refl _))
      have KP := hide (show ∀ X, Turn [w.heap.size] w1 X → (fun X : World => X.cell? ⟨g, 0, none⟩ = some (.string (bytL p)) ∧ X.cell? ⟨g, 1, none⟩ = some (.string (bytL q))) X from fun X t => ⟨(t.cell hg (by simpa using hgw)).trans c0, (t.cell hg (by simpa using hgw)).trans c1⟩)
      have BD := hide ((Below.refl w1.heap.size w1).drew)
      clear b1 T1 HC hcell
      generalize looseV q = z at *
      go_wp2_with fail
      go_region_held3 (fun X : World => X.cell? ⟨g, 0, none⟩ = some (.string (bytL p)) ∧ X.cell? ⟨g, 1, none⟩ = some (.string (bytL q))) ((refine unhide KP _ ?_; first | exact Turn.of_below (unhide (by assumption)) | exact ((Turn.of_below (unhide (by assumption))).setCell (by simp) _ _).setCell (by simp) _ _))
        (first
          | (go_at_call 48; refine (unhide HN _ ((unhide E1).below (unhide BD) (Nat.le_refl _))).mono ?_; rintro e w2 ⟨rfl, b2⟩; have BB := hide ((unhide BD).trans (b2.mono (unhide BD).size)); have X2 := hide ((unhide X1).up (unhide BB)); obtain ⟨⟨x0, x1⟩, f0, f1⟩ := pairV (unhide X2); clear b2)
          | fail)
      all_goals
        go_wp2_with fail
        refine bodyPost_ret (v := .agg #[.string (bytL p), .int .i64 z]) (by simp [results, Tryz.results49, go_sem, x0, x1]) rfl ?_
        exact ⟨by rw [(unhide HX).1, (unhide HX).2], (((unhide B1).trans ((unhide BB).mono (unhide B1).size)).setCell (p := ⟨w.heap.size, 0, none⟩) (Nat.le_refl _) _).setCell (p := ⟨w.heap.size, 1, none⟩) (Nat.le_refl _) _⟩
end Go.Proofs.YtiebfcefmdiajaaGreatDoor
