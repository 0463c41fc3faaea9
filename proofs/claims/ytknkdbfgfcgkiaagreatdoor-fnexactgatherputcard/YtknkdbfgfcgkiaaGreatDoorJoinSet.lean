/-
  l13Set of the specification: a stamp with a version of a source.
-/
import Derived.Test.YtknkdbfgfcgkiaaGreatDoorMerged14
import Derived.Test.YtknkdbfgfcgkiaaGreatDoorMerged9
import Derived.Test.YtknkdbfgfcgkiaaGreatDoorMerged16
import Derived.Test.YtknkdbfgfcgkiaaGreatDoorMerged7
import Derived.Test.YtknkdbfgfcgkiaaGreatDoorMerged10
import Derived.OwnWalk
set_option linter.unusedVariables false
namespace Go.Proofs.YtknkdbfgfcgkiaaGreatDoor
open Go.RowKit Go.Maps Go.Deep

/-- one mark of the stamp is looked at -/
def setStep (m : MarkV) (p : List MarkV × Bool) (x : MarkV) : List MarkV × Bool :=
 (if x.a0 = m.a0 then (if !p.2 && !lessS x.a0 m.a0 then p.1 ++ [m] else p.1) else (if !p.2 && !lessS x.a0 m.a0 then p.1 ++ [m] else p.1) ++ [x], p.2 || !lessS x.a0 m.a0)
def setTo (m : MarkV) (ns : List MarkV) : List MarkV × Bool := ns.foldl (setStep m) ([], false)
def setF (ns : List MarkV) (m : MarkV) : List MarkV := if (setTo m ns).2 then (setTo m ns).1 else (setTo m ns).1 ++ [m]
theorem setTo_take (m : MarkV) (ns : List MarkV) (k : Nat) (h : k < ns.length) : setTo m (ns.take (k + 1)) = setStep m (setTo m (ns.take k)) ns[k] := by
 unfold setTo
 rw [List.take_succ_eq_append_getElem h, List.foldl_append]
 rfl
theorem setTo_len (m : MarkV) (ns : List MarkV) : (setTo m ns).1.length ≤ 2 * ns.length := by
 have key : ∀ (ns : List MarkV) (p : List MarkV × Bool), (ns.foldl (setStep m) p).1.length ≤ p.1.length + 2 * ns.length := by
  intro ns
  induction ns with
  | nil => intro p; simp
  | cons x xs ih =>
   intro p
   have h1 := ih (setStep m p x)
   have h2 : (setStep m p x).1.length ≤ p.1.length + 2 := by
    unfold setStep
    dsimp only
    split <;> split <;> simp
   simp only [List.foldl_cons, List.length_cons]
   omega
 unfold setTo
 simpa using key ns ([], false)
set_option maxRecDepth 20000 in
set_option maxHeartbeats 12800000 in
theorem l13Set_row (w : World) (b off cap : Nat) (ns : List MarkV) (m0 : ByteArray) (m1 : Int) (hl : (ns.length : Int) ≤ 1000) (hc : MarkAt w b off ns) (hb : b < w.heap.size) :
  Calls Tryz.prog 84 #[.slice (some ⟨b, off, none⟩) ns.length cap, .agg #[.string m0, .int .i64 m1]] w fun e w' => ∃ v, e = .returned v ∧ Hid (MkRow w.heap.size w' v (setF ns ⟨m0, m1⟩)) ∧ Below w.heap.size w w' := by
 obtain ⟨bx, bb, zz⟩ := boxNew2 w (.string m0) (.int .i64 m1) 112
 have HC := hide (hc.below bb hb)
 clear hc
 go_enter Tryz.func84, Tryz.ntmps84
 go_wp2_with fail
 generalize w.alloc (.cells #[.string m0, .int .i64 m1] 112) = W0 at *
 have BX := hide bx
 have BB := hide bb
 clear bx bb
 go_loopw [5, 6, 7] (fun v u i wr => ∃ (k : Nat) (put : Bool) (out : List MarkV), k ≤ ns.length ∧ i = .int .i64 k ∧ u = .bool put ∧ Hid ((out, put) = setTo ⟨m0, m1⟩ (ns.take k)) ∧ Hid (MkRow W0.heap.size wr v out) ∧ Hid (Below W0.heap.size W0 wr)) (fun _ _ i _ => ns.length - (intOf i).toNat)
 case atStart => exact ⟨0, false, [], Nat.zero_le _, rfl, rfl, rfl, MkRow.nil _ _, Below.refl _ _⟩
 case round =>
  obtain ⟨k, put, out, hk, rfl, rfl, HO, Rwr, Bwr⟩ := hrel
  have hlo := hide (show out.length ≤ 999998 by have h1 := setTo_len ⟨m0, m1⟩ (ns.take k); rw [← unhide HO] at h1; simp at h1; omega)
  by_cases hlt : k < ns.length
  ·have HS := hide (setTo_take ⟨m0, m1⟩ ns k hlt)
   rw [← unhide HO] at HS
   obtain ⟨c0, c1⟩ := (unhide HC).below (unhide Bwr) (Nat.lt_of_lt_of_le hb (Nat.le_of_lt zz)) k hlt
   obtain ⟨d0, d1⟩ := ((unhide BX).up (unhide Bwr)).two
   have HLE := hide (geq_leq m0 ns[k].a0)
   have HNE := hide (str_same ns[k].a0 m0)
   have hbz : b < W0.heap.size := Nat.lt_of_lt_of_le hb (Nat.le_of_lt zz)
   clear HO
   have HCELL := hide (show ∀ X : World, Below W0.heap.size W0 X → (X.cell? ⟨b, off + k * 2, none⟩ = some (.string ns[k].a0) ∧ X.cell? ⟨b, off + k * 2 + 1, none⟩ = some (.int .i64 ns[k].a1)) ∧ X.cell? ⟨w.heap.size, 0, none⟩ = some (.string m0) ∧ X.cell? ⟨w.heap.size, 1, none⟩ = some (.int .i64 m1) from fun X bX => ⟨(unhide HC).below bX hbz k hlt, ((unhide BX).up bX).two⟩)
   obtain ⟨x0, x1, hx⟩ : ∃ x0 x1, ns[k] = ⟨x0, x1⟩ := ⟨_, _, rfl⟩
   simp only [hx] at c0 c1 HLE HNE HCELL
   rw [hx] at HS
   clear hx
   obtain ⟨av, cv, rfl⟩ := (unhide Rwr).slice

   cases put <;> cases hle : lessS x0 m0 <;> by_cases hne : x0 = m0
   ·-- put False, less False, same True
    have q1 : (Op.bytesLess m0.toList x0.toList || m0.toList == x0.toList) = true := by rw [unhide HLE, hle]; rfl
    have q2 : (x0.toList == m0.toList) = true := by rw [unhide HNE]; simpa using hne
    have HS2 := hide (show (out ++ [(⟨m0, m1⟩ : MarkV)], true) = setTo ⟨m0, m1⟩ (ns.take (k + 1)) by rw [unhide HS]; unfold setStep; dsimp only; rw [hle, if_pos hne]; rfl)
    clear HS HLE HNE hle hne
    go_wp2_with fail
    go_quiet (fail)
    have RW1 := hide ((unhide Rwr).up (belowN wr nq))
    have BW1 := hide ((unhide Bwr).trans ((belowN wr nq).mono (unhide Bwr).size))
    generalize wr.drewN nq = W1 at *
    clear c0 c1 d0 d1
    obtain ⟨⟨c0, c1⟩, d0, d1⟩ := unhide HCELL W1 (unhide BW1)
    have hl1 := hide (show out.length ≤ 1000000 by have := unhide hlo; omega)
    have hz1 : W0.heap.size ≤ (W1.alloc (.cells #[.string m0, .int .i64 m1] 112)).heap.size := by have := (unhide BW1).size; simp; omega
    have RA1 := hide ((unhide RW1).up ((Below.refl _ _).alloc (Nat.le_refl _) (.cells #[.string m0, .int .i64 m1] 112)))
    have BA1 := hide ((unhide BW1).alloc (unhide BW1).size (.cells #[.string m0, .int .i64 m1] 112))
    have ca1 : (W1.alloc (.cells #[.string m0, .int .i64 m1] 112)).cell? ⟨W1.heap.size, 0, none⟩ = some (.string m0) := World.cell?_alloc_at _ _ _ _ rfl
    have cb1 : (W1.alloc (.cells #[.string m0, .int .i64 m1] 112)).cell? ⟨W1.heap.size, 1, none⟩ = some (.int .i64 m1) := World.cell?_alloc_at _ _ _ _ rfl
    go_wp2_with (first
     | (at_builtin; have _g := RA1; refine wpList_markAppend rfl _ _ rfl W0.heap.size (.slice av out.length cv) out ⟨m0, m1⟩ W1.heap.size rfl rfl (unhide RA1) ca1 cb1 (unhide hl1) hz1 ?_; intro g1 n1 cp1 X1 hr1 hg1 hlie1; have RX1 := hide hr1; have BX1 := hide ((unhide BA1).grown hg1 (unhide BA1).size (fun q hq => (unhide RA1).ge q hq)); clear hr1 hg1 hlie1 RA1 BA1)
     | fail)
    clear c0 c1 d0 d1 ca1 cb1 hz1
    obtain ⟨⟨c0, c1⟩, d0, d1⟩ := unhide HCELL X1 (unhide BX1)
    go_wp2_with fail
    go_quiet (fail)
    have RW2 := hide ((unhide RX1).up (belowN X1 nq))
    have BW2 := hide ((unhide BX1).trans ((belowN X1 nq).mono (unhide BX1).size))
    generalize X1.drewN nq = W2 at *
    clear c0 c1 d0 d1
    obtain ⟨⟨c0, c1⟩, d0, d1⟩ := unhide HCELL W2 (unhide BW2)
    clear c0 c1 d0 d1
    go_wp2_with fail
    go_roundw
    case rel => exact ⟨k + 1, _, _, by omega, by go_num, rfl, HS2, RW2, BW2⟩
    case measure => simp [intOf]; omega
   ·-- put False, less False, same False
    have q1 : (Op.bytesLess m0.toList x0.toList || m0.toList == x0.toList) = true := by rw [unhide HLE, hle]; rfl
    have q2 : (x0.toList == m0.toList) = false := by rw [unhide HNE]; simpa using hne
    have HS2 := hide (show ((out ++ [(⟨m0, m1⟩ : MarkV)]) ++ [⟨x0, x1⟩], true) = setTo ⟨m0, m1⟩ (ns.take (k + 1)) by rw [unhide HS]; unfold setStep; dsimp only; rw [hle, if_neg hne]; rfl)
    clear HS HLE HNE hle hne
    go_wp2_with fail
    go_quiet (fail)
    have RW1 := hide ((unhide Rwr).up (belowN wr nq))
    have BW1 := hide ((unhide Bwr).trans ((belowN wr nq).mono (unhide Bwr).size))
    generalize wr.drewN nq = W1 at *
    clear c0 c1 d0 d1
    obtain ⟨⟨c0, c1⟩, d0, d1⟩ := unhide HCELL W1 (unhide BW1)
    have hl1 := hide (show out.length ≤ 1000000 by have := unhide hlo; omega)
    have hz1 : W0.heap.size ≤ (W1.alloc (.cells #[.string m0, .int .i64 m1] 112)).heap.size := by have := (unhide BW1).size; simp; omega
    have RA1 := hide ((unhide RW1).up ((Below.refl _ _).alloc (Nat.le_refl _) (.cells #[.string m0, .int .i64 m1] 112)))
    have BA1 := hide ((unhide BW1).alloc (unhide BW1).size (.cells #[.string m0, .int .i64 m1] 112))
    have ca1 : (W1.alloc (.cells #[.string m0, .int .i64 m1] 112)).cell? ⟨W1.heap.size, 0, none⟩ = some (.string m0) := World.cell?_alloc_at _ _ _ _ rfl
    have cb1 : (W1.alloc (.cells #[.string m0, .int .i64 m1] 112)).cell? ⟨W1.heap.size, 1, none⟩ = some (.int .i64 m1) := World.cell?_alloc_at _ _ _ _ rfl
    go_wp2_with (first
     | (at_builtin; have _g := RA1; refine wpList_markAppend rfl _ _ rfl W0.heap.size (.slice av out.length cv) out ⟨m0, m1⟩ W1.heap.size rfl rfl (unhide RA1) ca1 cb1 (unhide hl1) hz1 ?_; intro g1 n1 cp1 X1 hr1 hg1 hlie1; have RX1 := hide hr1; have BX1 := hide ((unhide BA1).grown hg1 (unhide BA1).size (fun q hq => (unhide RA1).ge q hq)); clear hr1 hg1 hlie1 RA1 BA1)
     | fail)
    clear c0 c1 d0 d1 ca1 cb1 hz1
    obtain ⟨⟨c0, c1⟩, d0, d1⟩ := unhide HCELL X1 (unhide BX1)
    go_wp2_with fail
    go_quiet (fail)
    have RW2 := hide ((unhide RX1).up (belowN X1 nq))
    have BW2 := hide ((unhide BX1).trans ((belowN X1 nq).mono (unhide BX1).size))
    generalize X1.drewN nq = W2 at *
    clear c0 c1 d0 d1
    obtain ⟨⟨c0, c1⟩, d0, d1⟩ := unhide HCELL W2 (unhide BW2)
    have hl2 := hide (show (out ++ [(⟨m0, m1⟩ : MarkV)]).length ≤ 1000000 by have := unhide hlo; simp; omega)
    have hz2 : W0.heap.size ≤ (W2.alloc (.cells #[.string x0, .int .i64 x1] 112)).heap.size := by have := (unhide BW2).size; simp; omega
    have RA2 := hide ((unhide RW2).up ((Below.refl _ _).alloc (Nat.le_refl _) (.cells #[.string x0, .int .i64 x1] 112)))
    have BA2 := hide ((unhide BW2).alloc (unhide BW2).size (.cells #[.string x0, .int .i64 x1] 112))
    have ca2 : (W2.alloc (.cells #[.string x0, .int .i64 x1] 112)).cell? ⟨W2.heap.size, 0, none⟩ = some (.string x0) := World.cell?_alloc_at _ _ _ _ rfl
    have cb2 : (W2.alloc (.cells #[.string x0, .int .i64 x1] 112)).cell? ⟨W2.heap.size, 1, none⟩ = some (.int .i64 x1) := World.cell?_alloc_at _ _ _ _ rfl
    go_wp2_with (first
     | (at_builtin; have _g := RA2; refine wpList_markAppend rfl _ _ rfl W0.heap.size (.slice (some ⟨g1, 0, none⟩) n1 cp1) (out ++ [(⟨m0, m1⟩ : MarkV)]) ⟨x0, x1⟩ W2.heap.size rfl rfl (unhide RA2) ca2 cb2 (unhide hl2) hz2 ?_; intro g2 n2 cp2 X2 hr2 hg2 hlie2; have RX2 := hide hr2; have BX2 := hide ((unhide BA2).grown hg2 (unhide BA2).size (fun q hq => (unhide RA2).ge q hq)); clear hr2 hg2 hlie2 RA2 BA2)
     | fail)
    clear ca2 cb2 hz2
    clear c0 c1 d0 d1
    go_wp2_with fail
    go_roundw
    case rel => exact ⟨k + 1, _, _, by omega, by go_num, rfl, HS2, RX2, BX2⟩
    case measure => simp [intOf]; omega
   ·-- put False, less True, same True
    have q1 : (Op.bytesLess m0.toList x0.toList || m0.toList == x0.toList) = false := by rw [unhide HLE, hle]; rfl
    have q2 : (x0.toList == m0.toList) = true := by rw [unhide HNE]; simpa using hne
    exfalso
    rw [hne, less_irrefl] at hle
    cases hle
   ·-- put False, less True, same False
    have q1 : (Op.bytesLess m0.toList x0.toList || m0.toList == x0.toList) = false := by rw [unhide HLE, hle]; rfl
    have q2 : (x0.toList == m0.toList) = false := by rw [unhide HNE]; simpa using hne
    have HS2 := hide (show ((out) ++ [⟨x0, x1⟩], false) = setTo ⟨m0, m1⟩ (ns.take (k + 1)) by rw [unhide HS]; unfold setStep; dsimp only; rw [hle, if_neg hne]; rfl)
    clear HS HLE HNE hle hne
    go_wp2_with fail
    go_quiet (fail)
    have RW1 := hide ((unhide Rwr).up (belowN wr nq))
    have BW1 := hide ((unhide Bwr).trans ((belowN wr nq).mono (unhide Bwr).size))
    generalize wr.drewN nq = W1 at *
    clear c0 c1 d0 d1
    obtain ⟨⟨c0, c1⟩, d0, d1⟩ := unhide HCELL W1 (unhide BW1)
    go_wp2_with fail
    go_quiet (fail)
    have RW2 := hide ((unhide RW1).up (belowN W1 nq))
    have BW2 := hide ((unhide BW1).trans ((belowN W1 nq).mono (unhide BW1).size))
    generalize W1.drewN nq = W2 at *
    clear c0 c1 d0 d1
    obtain ⟨⟨c0, c1⟩, d0, d1⟩ := unhide HCELL W2 (unhide BW2)
    have hl2 := hide (show (out).length ≤ 1000000 by have := unhide hlo; simp; omega)
    have hz2 : W0.heap.size ≤ (W2.alloc (.cells #[.string x0, .int .i64 x1] 112)).heap.size := by have := (unhide BW2).size; simp; omega
    have RA2 := hide ((unhide RW2).up ((Below.refl _ _).alloc (Nat.le_refl _) (.cells #[.string x0, .int .i64 x1] 112)))
    have BA2 := hide ((unhide BW2).alloc (unhide BW2).size (.cells #[.string x0, .int .i64 x1] 112))
    have ca2 : (W2.alloc (.cells #[.string x0, .int .i64 x1] 112)).cell? ⟨W2.heap.size, 0, none⟩ = some (.string x0) := World.cell?_alloc_at _ _ _ _ rfl
    have cb2 : (W2.alloc (.cells #[.string x0, .int .i64 x1] 112)).cell? ⟨W2.heap.size, 1, none⟩ = some (.int .i64 x1) := World.cell?_alloc_at _ _ _ _ rfl
    go_wp2_with (first
     | (at_builtin; have _g := RA2; refine wpList_markAppend rfl _ _ rfl W0.heap.size (.slice av out.length cv) (out) ⟨x0, x1⟩ W2.heap.size rfl rfl (unhide RA2) ca2 cb2 (unhide hl2) hz2 ?_; intro g2 n2 cp2 X2 hr2 hg2 hlie2; have RX2 := hide hr2; have BX2 := hide ((unhide BA2).grown hg2 (unhide BA2).size (fun q hq => (unhide RA2).ge q hq)); clear hr2 hg2 hlie2 RA2 BA2)
     | fail)
    clear ca2 cb2 hz2
    clear c0 c1 d0 d1
    go_wp2_with fail
    go_roundw
    case rel => exact ⟨k + 1, _, _, by omega, by go_num, rfl, HS2, RX2, BX2⟩
    case measure => simp [intOf]; omega
   ·-- put True, less False, same True
    have q1 : (Op.bytesLess m0.toList x0.toList || m0.toList == x0.toList) = true := by rw [unhide HLE, hle]; rfl
    have q2 : (x0.toList == m0.toList) = true := by rw [unhide HNE]; simpa using hne
    have HS2 := hide (show (out, true) = setTo ⟨m0, m1⟩ (ns.take (k + 1)) by rw [unhide HS]; unfold setStep; dsimp only; rw [hle, if_pos hne]; rfl)
    clear HS HLE HNE hle hne
    go_wp2_with fail
    go_quiet (fail)
    have RW1 := hide ((unhide Rwr).up (belowN wr nq))
    have BW1 := hide ((unhide Bwr).trans ((belowN wr nq).mono (unhide Bwr).size))
    generalize wr.drewN nq = W1 at *
    clear c0 c1 d0 d1
    obtain ⟨⟨c0, c1⟩, d0, d1⟩ := unhide HCELL W1 (unhide BW1)
    go_wp2_with fail
    go_quiet (fail)
    have RW2 := hide ((unhide RW1).up (belowN W1 nq))
    have BW2 := hide ((unhide BW1).trans ((belowN W1 nq).mono (unhide BW1).size))
    generalize W1.drewN nq = W2 at *
    clear c0 c1 d0 d1
    obtain ⟨⟨c0, c1⟩, d0, d1⟩ := unhide HCELL W2 (unhide BW2)
    clear c0 c1 d0 d1
    go_wp2_with fail
    go_roundw
    case rel => exact ⟨k + 1, _, _, by omega, by go_num, rfl, HS2, RW2, BW2⟩
    case measure => simp [intOf]; omega
   ·-- put True, less False, same False
    have q1 : (Op.bytesLess m0.toList x0.toList || m0.toList == x0.toList) = true := by rw [unhide HLE, hle]; rfl
    have q2 : (x0.toList == m0.toList) = false := by rw [unhide HNE]; simpa using hne
    have HS2 := hide (show ((out) ++ [⟨x0, x1⟩], true) = setTo ⟨m0, m1⟩ (ns.take (k + 1)) by rw [unhide HS]; unfold setStep; dsimp only; rw [hle, if_neg hne]; rfl)
    clear HS HLE HNE hle hne
    go_wp2_with fail
    go_quiet (fail)
    have RW1 := hide ((unhide Rwr).up (belowN wr nq))
    have BW1 := hide ((unhide Bwr).trans ((belowN wr nq).mono (unhide Bwr).size))
    generalize wr.drewN nq = W1 at *
    clear c0 c1 d0 d1
    obtain ⟨⟨c0, c1⟩, d0, d1⟩ := unhide HCELL W1 (unhide BW1)
    go_wp2_with fail
    go_quiet (fail)
    have RW2 := hide ((unhide RW1).up (belowN W1 nq))
    have BW2 := hide ((unhide BW1).trans ((belowN W1 nq).mono (unhide BW1).size))
    generalize W1.drewN nq = W2 at *
    clear c0 c1 d0 d1
    obtain ⟨⟨c0, c1⟩, d0, d1⟩ := unhide HCELL W2 (unhide BW2)
    have hl2 := hide (show (out).length ≤ 1000000 by have := unhide hlo; simp; omega)
    have hz2 : W0.heap.size ≤ (W2.alloc (.cells #[.string x0, .int .i64 x1] 112)).heap.size := by have := (unhide BW2).size; simp; omega
    have RA2 := hide ((unhide RW2).up ((Below.refl _ _).alloc (Nat.le_refl _) (.cells #[.string x0, .int .i64 x1] 112)))
    have BA2 := hide ((unhide BW2).alloc (unhide BW2).size (.cells #[.string x0, .int .i64 x1] 112))
    have ca2 : (W2.alloc (.cells #[.string x0, .int .i64 x1] 112)).cell? ⟨W2.heap.size, 0, none⟩ = some (.string x0) := World.cell?_alloc_at _ _ _ _ rfl
    have cb2 : (W2.alloc (.cells #[.string x0, .int .i64 x1] 112)).cell? ⟨W2.heap.size, 1, none⟩ = some (.int .i64 x1) := World.cell?_alloc_at _ _ _ _ rfl
    go_wp2_with (first
     | (at_builtin; have _g := RA2; refine wpList_markAppend rfl _ _ rfl W0.heap.size (.slice av out.length cv) (out) ⟨x0, x1⟩ W2.heap.size rfl rfl (unhide RA2) ca2 cb2 (unhide hl2) hz2 ?_; intro g2 n2 cp2 X2 hr2 hg2 hlie2; have RX2 := hide hr2; have BX2 := hide ((unhide BA2).grown hg2 (unhide BA2).size (fun q hq => (unhide RA2).ge q hq)); clear hr2 hg2 hlie2 RA2 BA2)
     | fail)
    clear ca2 cb2 hz2
    clear c0 c1 d0 d1
    go_wp2_with fail
    go_roundw
    case rel => exact ⟨k + 1, _, _, by omega, by go_num, rfl, HS2, RX2, BX2⟩
    case measure => simp [intOf]; omega
   ·-- put True, less True, same True
    have q1 : (Op.bytesLess m0.toList x0.toList || m0.toList == x0.toList) = false := by rw [unhide HLE, hle]; rfl
    have q2 : (x0.toList == m0.toList) = true := by rw [unhide HNE]; simpa using hne
    exfalso
    rw [hne, less_irrefl] at hle
    cases hle
   ·-- put True, less True, same False
    have q1 : (Op.bytesLess m0.toList x0.toList || m0.toList == x0.toList) = false := by rw [unhide HLE, hle]; rfl
    have q2 : (x0.toList == m0.toList) = false := by rw [unhide HNE]; simpa using hne
    have HS2 := hide (show ((out) ++ [⟨x0, x1⟩], true) = setTo ⟨m0, m1⟩ (ns.take (k + 1)) by rw [unhide HS]; unfold setStep; dsimp only; rw [hle, if_neg hne]; rfl)
    clear HS HLE HNE hle hne
    go_wp2_with fail
    go_quiet (fail)
    have RW1 := hide ((unhide Rwr).up (belowN wr nq))
    have BW1 := hide ((unhide Bwr).trans ((belowN wr nq).mono (unhide Bwr).size))
    generalize wr.drewN nq = W1 at *
    clear c0 c1 d0 d1
    obtain ⟨⟨c0, c1⟩, d0, d1⟩ := unhide HCELL W1 (unhide BW1)
    go_wp2_with fail
    go_quiet (fail)
    have RW2 := hide ((unhide RW1).up (belowN W1 nq))
    have BW2 := hide ((unhide BW1).trans ((belowN W1 nq).mono (unhide BW1).size))
    generalize W1.drewN nq = W2 at *
    clear c0 c1 d0 d1
    obtain ⟨⟨c0, c1⟩, d0, d1⟩ := unhide HCELL W2 (unhide BW2)
    have hl2 := hide (show (out).length ≤ 1000000 by have := unhide hlo; simp; omega)
    have hz2 : W0.heap.size ≤ (W2.alloc (.cells #[.string x0, .int .i64 x1] 112)).heap.size := by have := (unhide BW2).size; simp; omega
    have RA2 := hide ((unhide RW2).up ((Below.refl _ _).alloc (Nat.le_refl _) (.cells #[.string x0, .int .i64 x1] 112)))
    have BA2 := hide ((unhide BW2).alloc (unhide BW2).size (.cells #[.string x0, .int .i64 x1] 112))
    have ca2 : (W2.alloc (.cells #[.string x0, .int .i64 x1] 112)).cell? ⟨W2.heap.size, 0, none⟩ = some (.string x0) := World.cell?_alloc_at _ _ _ _ rfl
    have cb2 : (W2.alloc (.cells #[.string x0, .int .i64 x1] 112)).cell? ⟨W2.heap.size, 1, none⟩ = some (.int .i64 x1) := World.cell?_alloc_at _ _ _ _ rfl
    go_wp2_with (first
     | (at_builtin; have _g := RA2; refine wpList_markAppend rfl _ _ rfl W0.heap.size (.slice av out.length cv) (out) ⟨x0, x1⟩ W2.heap.size rfl rfl (unhide RA2) ca2 cb2 (unhide hl2) hz2 ?_; intro g2 n2 cp2 X2 hr2 hg2 hlie2; have RX2 := hide hr2; have BX2 := hide ((unhide BA2).grown hg2 (unhide BA2).size (fun q hq => (unhide RA2).ge q hq)); clear hr2 hg2 hlie2 RA2 BA2)
     | fail)
    clear ca2 cb2 hz2
    clear c0 c1 d0 d1
    go_wp2_with fail
    go_roundw
    case rel => exact ⟨k + 1, _, _, by omega, by go_num, rfl, HS2, RX2, BX2⟩
    case measure => simp [intOf]; omega
  ·have e : k = ns.length := by omega
   have HE := hide (show (out, put) = setTo ⟨m0, m1⟩ ns by rw [unhide HO, e, List.take_length])
   obtain ⟨d0, d1⟩ := ((unhide BX).up (unhide Bwr)).two
   obtain ⟨av, cv, rfl⟩ := (unhide Rwr).slice
   clear e HO
   cases put
   ·have HF := hide (show out ++ [⟨m0, m1⟩] = setF ns ⟨m0, m1⟩ by unfold setF; rw [← unhide HE]; rfl)
    have hl1 := hide (show out.length ≤ 1000000 by have := unhide hlo; omega)
    have hz1 : W0.heap.size ≤ (wr.alloc (.cells #[.string m0, .int .i64 m1] 112)).heap.size := by have := (unhide Bwr).size; simp; omega
    have RA1 := hide ((unhide Rwr).up ((Below.refl _ _).alloc (Nat.le_refl _) (.cells #[.string m0, .int .i64 m1] 112)))
    have BA1 := hide ((unhide Bwr).alloc (unhide Bwr).size (.cells #[.string m0, .int .i64 m1] 112))
    have ca1 : (wr.alloc (.cells #[.string m0, .int .i64 m1] 112)).cell? ⟨wr.heap.size, 0, none⟩ = some (.string m0) := World.cell?_alloc_at _ _ _ _ rfl
    have cb1 : (wr.alloc (.cells #[.string m0, .int .i64 m1] 112)).cell? ⟨wr.heap.size, 1, none⟩ = some (.int .i64 m1) := World.cell?_alloc_at _ _ _ _ rfl
    go_wp2_with (first
     | (at_builtin; have _g := RA1; refine wpList_markAppend rfl _ _ rfl W0.heap.size (.slice av out.length cv) out ⟨m0, m1⟩ wr.heap.size rfl rfl (unhide RA1) ca1 cb1 (unhide hl1) hz1 ?_; intro g1 n1 cp1 X1 hr1 hg1 hlie1; have RX1 := hide hr1; have BX1 := hide ((unhide BA1).grown hg1 (unhide BA1).size (fun q hq => (unhide RA1).ge q hq)); clear hr1 hg1 hlie1 RA1 BA1)
     | fail)
    clear d0 d1 ca1 cb1 hz1
    go_wp2_with fail
    go_ret
    exact ⟨_, rfl, hide (by rw [← unhide HF]; exact (unhide RX1).mono (Nat.le_of_lt zz)), (unhide BB).trans ((unhide BX1).mono (Nat.le_of_lt zz))⟩
   ·have HF := hide (show out = setF ns ⟨m0, m1⟩ by unfold setF; rw [← unhide HE]; rfl)
    go_wp2_with fail
    go_ret
    exact ⟨_, rfl, hide (by rw [← unhide HF]; exact (unhide Rwr).mono (Nat.le_of_lt zz)), (unhide BB).trans ((unhide Bwr).mono (Nat.le_of_lt zz))⟩
set_option maxHeartbeats 1600000 in
theorem l13Set_none (w : World) (a : Option Addr) (cap : Nat) (m0 : ByteArray) (m1 : Int) :
  Calls Tryz.prog 84 #[.slice a 0 cap, .agg #[.string m0, .int .i64 m1]] w fun e w' => ∃ v, e = .returned v ∧ Hid (MkRow w.heap.size w' v (setF [] ⟨m0, m1⟩)) ∧ Below w.heap.size w w' := by
 obtain ⟨bx, bb, zz⟩ := boxNew2 w (.string m0) (.int .i64 m1) 112
 go_enter Tryz.func84, Tryz.ntmps84
 go_wp2_with fail
 generalize w.alloc (.cells #[.string m0, .int .i64 m1] 112) = W0 at *
 refine wp_loop_rounds 1 ?_
 rw [rounds_succ]
 obtain ⟨d0, d1⟩ := bx.two
 have BB := hide bb
 clear bx bb
 have hz1 : W0.heap.size ≤ (W0.alloc (.cells #[.string m0, .int .i64 m1] 112)).heap.size := by simp
 have RA1 := hide ((MkRow.nil W0.heap.size W0).up ((Below.refl _ _).alloc (Nat.le_refl _) (.cells #[.string m0, .int .i64 m1] 112)))
 have BA1 := hide ((Below.refl W0.heap.size W0).alloc (Nat.le_refl _) (.cells #[.string m0, .int .i64 m1] 112))
 have ca1 : (W0.alloc (.cells #[.string m0, .int .i64 m1] 112)).cell? ⟨W0.heap.size, 0, none⟩ = some (.string m0) := World.cell?_alloc_at _ _ _ _ rfl
 have cb1 : (W0.alloc (.cells #[.string m0, .int .i64 m1] 112)).cell? ⟨W0.heap.size, 1, none⟩ = some (.int .i64 m1) := World.cell?_alloc_at _ _ _ _ rfl
 go_wp2_with (first
  | (at_builtin; have _g := RA1; refine wpList_markAppend rfl _ _ rfl W0.heap.size (.slice none 0 0) [] ⟨m0, m1⟩ W0.heap.size rfl rfl (unhide RA1) ca1 cb1 (by simp) hz1 ?_; intro g1 n1 cp1 X1 hr1 hg1 hlie1; have RX1 := hide hr1; have BX1 := hide ((unhide BA1).grown hg1 (unhide BA1).size (fun q hq => (unhide RA1).ge q hq)); clear hr1 hg1 hlie1 RA1 BA1)
  | fail)
 go_ret
 exact ⟨_, rfl, hide ((unhide RX1).mono (Nat.le_of_lt zz)), (unhide BB).trans ((unhide BX1).mono (Nat.le_of_lt zz))⟩
theorem l13Set_any (ns : List MarkV) (v : Value) (m : MarkV) (w : World) (hl : (ns.length : Int) ≤ 1000) (h : MarkSRd w v ns) :
  Calls Tryz.prog 84 #[v, .agg #[.string m.a0, .int .i64 m.a1]] w fun e w' => ∃ v, e = .returned v ∧ Hid (MkRow w.heap.size w' v (setF ns m)) ∧ Below w.heap.size w w' := by
 obtain ⟨a, c, rfl, h⟩ := h
 rcases h with rfl | ⟨b, off, rfl, hb, hc⟩
 ·exact l13Set_none w a c m.a0 m.a1
 ·exact l13Set_row w b off c ns m.a0 m.a1 hl hc hb
end Go.Proofs.YtknkdbfgfcgkiaaGreatDoor
