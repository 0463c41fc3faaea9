/-
  The specification's l16Ins: which inputs may be.
-/
/-
  The specification's side of choices: which windows may be chosen from, and whether the items at some places agree.
-/
/-
  The program's windowsOk: which windows may be chosen from.
-/
/-
  GatherOk of both sides.
-/
import Derived.Test.YtknkdbfgfcgkiaaGreatDoorMerged23
import Derived.Handy
import Derived.BigQuiet
import Derived.Deep.QuietTactic
import Derived.Test.YtknkdbfgfcgkiaaGreatDoorMerged21
import Derived.Test.YtknkdbfgfcgkiaaGreatDoorMerged7
import Derived.Test.YtknkdbfgfcgkiaaGreatDoorMerged22
import Derived.Test.YtknkdbfgfcgkiaaGreatDoorMerged15
set_option linter.unusedVariables false
namespace Go.Proofs.YtknkdbfgfcgkiaaGreatDoor
open Go.RowKit Go.Maps Go.Deep

set_option maxHeartbeats 6400000 in
theorem l16Ins_any (ins : List ByteArray) (v : Value) (w : World) (hs : SmallStringS ins) (h : StringSRd w v ins) :
  Calls Tryz.prog 53 #[v] w fun e w' => e = .returned (.bool (insB ins)) ∧ Below w.heap.size w w' := by
 obtain ⟨a, c, rfl, h⟩ := h
 have hn := hs.1
 by_cases h1 : ins.length < 1
 ·have HE := hide (insB_len (.inl h1))
  rw [unhide HE]
  generalize ins.length = n at *
  clear h hs HE
  have h1' : (n : Int) < 1 := by omega
  go_enter Tryz.func53, Tryz.ntmps53
  go_wp2_with fail
  go_ret
  exact ⟨rfl, Below.refl _ _⟩
 by_cases h6 : 6 < ins.length
 ·have HE := hide (insB_len (.inr h6))
  rw [unhide HE]
  generalize ins.length = n at *
  clear h hs HE
  have h1' : ¬ (n : Int) < 1 := by omega
  have h6' : 6 < (n : Int) := by omega
  go_enter Tryz.func53, Tryz.ntmps53
  go_wp2_with fail
  go_ret
  exact ⟨rfl, Below.refl _ _⟩
 rcases h with rfl | ⟨b, off, rfl, hb, hc⟩
 ·simp at h1
 have HC := hide hc
 have HS := hide hs.2
 have h1' : ¬ (ins.length : Int) < 1 := by omega
 have h6' : ¬ 6 < (ins.length : Int) := by omega
 clear hc hs
 go_enter Tryz.func53, Tryz.ntmps53
 go_wp2_with fail
 go_loopw [3] (fun i wr => ∃ (k : Nat), k ≤ ins.length ∧ i = .int .i64 k ∧ Hid (∀ j, j < k → inOkB ins j = true) ∧ Hid (Below w.heap.size w wr)) (fun i _ => ins.length - (intOf i).toNat)
 case atStart => exact ⟨0, Nat.zero_le _, rfl, hide (fun j hj => absurd hj (Nat.not_lt_zero _)), Below.refl _ _⟩
 case round =>
  obtain ⟨i, hk, rfl, HN, HB⟩ := hrel
  by_cases hlt : i < ins.length
  ·have c0 := ((unhide HB).cell (show b < w.heap.size from hb)).trans (unhide HC i hlt)
   have HV := hide (specPlain13_any ins[i] wr (by have := unhide HS _ (List.getElem_mem hlt); unfold maxLen; omega))
   have HNO := hide (fun h => insB_no hlt h)
   rw [inOk_get hlt] at HNO
   cases hp : plainB ins[i]
   ·rw [hp] at HV
    have HE := hide (unhide HNO (by rw [hp]; rfl))
    clear HNO hp
    generalize ins[i] = t at *
    go_wp2_with fail
    refine (unhide HV).mono ?_
    rintro e w1 ⟨rfl, hw⟩
    rw [hw]
    clear hw c0
    go_wp2_with fail
    go_ret
    exact ⟨ret_bool (unhide HE).symm, unhide HB⟩
   ·rw [hp] at HV
    have HDUP := hide (fun (h : hasG (ins.take i) ins[i] = true) => unhide HNO (show (plainB ins[i] && !(hasG (ins.take i) ins[i])) = false by rw [h]; simp))
    have HYES := hide (show NewTo ins i i → ∀ j, j < i + 1 → inOkB ins j = true from fun h j hj => by
     by_cases e : j = i
     ·subst e; rw [inOk_get hlt, hp, new_all hlt h]; rfl
     ·exact unhide HN j (by omega))
    clear HNO hp HN
    obtain ⟨t, ht⟩ : ∃ t, ins[i] = t := ⟨_, rfl⟩
    have HTI := hide ht
    rw [ht] at c0 HV
    clear ht
    go_wp2_with fail
    refine (unhide HV).mono ?_
    rintro e w1 ⟨rfl, hw⟩
    rw [hw]
    clear hw c0 HV
    go_wp2_with fail
    go_loopw [4] (fun kk w2 => ∃ (k : Nat), k ≤ i ∧ kk = .int .i64 k ∧ Hid (NewTo ins i k) ∧ Hid (Below w.heap.size w w2)) (fun kk _ => i - (intOf kk).toNat)
    case atStart => exact ⟨0, Nat.zero_le _, rfl, hide (fun j _ _ hj => absurd hj (Nat.not_lt_zero _)), HB⟩
    case round =>
     obtain ⟨k, hki, rfl, HW, HB2⟩ := hrel
     by_cases hkl : k < i
     ·have hkn : k < ins.length := by omega
      have c0 := ((unhide HB2).cell (show b < w.heap.size from hb)).trans (unhide HC i hlt)
      have c1 := ((unhide HB2).cell (show b < w.heap.size from hb)).trans (unhide HC k hkn)
      rw [unhide HTI] at c0
      by_cases he : ins[k] = t
      ·have HE := hide (unhide HDUP (new_none hlt hkl (he.trans (unhide HTI).symm)))
       rw [he] at c1
       clear he
       go_wp2_with fail
       go_quiet (fail)
       have HBD := hide ((unhide HB2).trans ((belowN wr nq).mono (unhide HB2).size))
       clear c0 c1
       go_wp2_with fail
       go_ret
       exact ⟨ret_bool (unhide HE).symm, unhide HBD⟩
      ·have HW2 := hide (show NewTo ins i (k + 1) from fun j hj hi hjk => by
        by_cases e : j = k
        ·subst e; rw [unhide HTI]; exact he
        ·exact unhide HW j hj hi (by omega))
       have q := str_neq he
       generalize ins[k] = s at *
       clear he
       go_wp2_with fail
       go_quiet (fail)
       have HBD := hide ((unhide HB2).trans ((belowN wr nq).mono (unhide HB2).size))
       clear c0 c1 q
       go_wp2_with fail
       go_roundw
       case rel => exact ⟨k + 1, by omega, by go_num, HW2, HBD⟩
       case measure => simp [intOf]; omega
     ·obtain rfl : k = i := by omega
      have HY := hide (unhide HYES (unhide HW))
      go_wp2_with fail
      go_roundw
      case rel => exact ⟨k + 1, by omega, by go_num, HY, HB2⟩
      case measure => simp [intOf]; omega
  ·have HE := hide (insB_yes (by omega) (by omega) (fun j hj => unhide HN j (by omega)))
   go_wp2_with fail
   go_ret
   exact ⟨ret_bool (unhide HE).symm, unhide HB⟩
end Go.Proofs.YtknkdbfgfcgkiaaGreatDoor

set_option linter.unusedVariables false
namespace Go.Proofs.YtknkdbfgfcgkiaaGreatDoor
open Go.RowKit Go.Maps Go.Deep

set_option maxHeartbeats 3200000 in
theorem l15Ok_any (ws : List (List ItemV)) (v : Value) (w : World) (hs : SmallItemSS ws) (h : ItemSSRd w v ws) :
  Calls Tryz.prog 54 #[v] w fun e w' => e = .returned (.bool (winsB ws)) ∧ Below w.heap.size w w' := by
 obtain ⟨a, c, rfl, h⟩ := h
 have hn := hs.1
 by_cases h1 : ws.length < 1
 ·have HE := hide (winsB_no_len (.inl h1))
  rw [unhide HE]
  generalize ws.length = n at *
  clear h hs HE
  have h1' : (n : Int) < 1 := by omega
  go_enter Tryz.func54, Tryz.ntmps54
  go_wp2_with fail
  go_ret
  exact ⟨rfl, Below.refl _ _⟩
 by_cases h6 : 6 < ws.length
 ·have HE := hide (winsB_no_len (.inr h6))
  rw [unhide HE]
  generalize ws.length = n at *
  clear h hs HE
  have h1' : ¬ (n : Int) < 1 := by omega
  have h6' : 6 < (n : Int) := by omega
  go_enter Tryz.func54, Tryz.ntmps54
  go_wp2_with fail
  go_ret
  exact ⟨rfl, Below.refl _ _⟩
 rcases h with rfl | ⟨b, off, rfl, hb, hc⟩
 ·simp at h1
 have HC := hide hc
 have HS := hide hs.2
 have h1' : ¬ (ws.length : Int) < 1 := by omega
 have h6' : ¬ 6 < (ws.length : Int) := by omega
 clear hc hs
 go_enter Tryz.func54, Tryz.ntmps54
 go_wp2_with fail
 go_loopw [3] (fun i wr => ∃ (k : Nat), k ≤ ws.length ∧ i = .int .i64 k ∧ Hid (∀ j (hj : j < ws.length), j < k → windowB orderOut ws[j] = true) ∧ Hid (Below w.heap.size w wr)) (fun i _ => ws.length - (intOf i).toNat)
 case atStart => exact ⟨0, Nat.zero_le _, rfl, hide (fun j _ hj => absurd hj (Nat.not_lt_zero _)), Below.refl _ _⟩
 case round =>
  obtain ⟨k, hk, rfl, HN, HB⟩ := hrel
  by_cases hlt : k < ws.length
  ·obtain ⟨v, c0, hv⟩ := (unhide HC).up hb (unhide HB) k hlt
   have HV := hide (specWindow_ok ws[k] v wr (unhide HS _ (List.getElem_mem hlt)) hv)
   have HNO := hide (fun h => winsB_no hlt h)
   have HYES := hide (show windowB orderOut ws[k] = true → ∀ j (hj : j < ws.length), j < k + 1 → windowB orderOut ws[j] = true from fun h j hj hjk => by
    by_cases e : j = k
    ·subst e; exact h
    ·exact unhide HN j hj (by omega))
   obtain ⟨va, vn, vc, rfl⟩ := hv.form
   clear hv
   cases hw : windowB orderOut ws[k]
   ·rw [hw] at HV
    have HE := hide (unhide HNO hw)
    clear HYES HNO hw
    go_wp2_with fail
    refine (unhide HV).mono ?_
    rintro e w1 ⟨rfl, b1⟩
    have B1 := hide ((unhide HB).trans (b1.mono (unhide HB).size))
    clear b1 c0
    go_wp2_with fail
    go_ret
    exact ⟨ret_bool (unhide HE).symm, unhide B1⟩
   ·rw [hw] at HV
    have HY := hide (unhide HYES hw)
    clear HYES HNO hw
    go_wp2_with fail
    refine (unhide HV).mono ?_
    rintro e w1 ⟨rfl, b1⟩
    have B1 := hide ((unhide HB).trans (b1.mono (unhide HB).size))
    clear b1 c0
    go_wp2_with fail
    go_roundw
    case rel => exact ⟨k + 1, by omega, by go_num, HY, B1⟩
    case measure => simp [intOf]; omega
  ·have HE := hide (winsB_yes (by omega) (by omega) (fun j hj => unhide HN j hj (by omega)))
   go_wp2_with fail
   go_ret
   exact ⟨ret_bool (unhide HE).symm, unhide HB⟩
set_option maxHeartbeats 6400000 in
theorem l15Agrees_row (w : World) (b off cap b2 off2 cap2 : Nat) (ws : List (List ItemV)) (ps : List Int) (hs : SmallItemSS ws) (hl : ps.length ≤ ws.length) (h6 : ws.length ≤ 6) (hin : inB ws ps = true) (hc : WinsAt w b off ws) (hp : IntsAt w b2 off2 ps) (hb : b < w.heap.size) (hb2 : b2 < w.heap.size) :
  Calls Tryz.prog 83 #[.slice (some ⟨b, off, none⟩) ws.length cap, .slice (some ⟨b2, off2, none⟩) ps.length cap2] w fun e w' => e = .returned (.bool (agB ws ps)) ∧ Below w.heap.size w w' := by
 have HC := hide hc
 have HP := hide hp
 have HS := hide hs
 have HIN := hide hin
 clear hs hc hp hin
 go_enter Tryz.func83, Tryz.ntmps83
 go_wp2_with fail
 go_loopw [5] (fun i wr => ∃ (k : Nat), k ≤ ps.length ∧ i = .int .i64 k ∧ Hid (PairsTo ws ps k 0) ∧ Hid (Below w.heap.size w wr)) (fun i _ => ps.length - (intOf i).toNat)
 case atStart => exact ⟨0, Nat.zero_le _, rfl, hide (pairs_zero ws ps), Below.refl _ _⟩
 case round =>
  obtain ⟨i, hi, rfl, HN, HB⟩ := hrel
  by_cases hlt : i < ps.length
  ·go_wp2_with fail
   go_loopw [6] (fun kk w2 => ∃ (k : Nat), k ≤ i ∧ kk = .int .i64 k ∧ Hid (PairsTo ws ps i k) ∧ Hid (Below w.heap.size w w2)) (fun kk _ => i - (intOf kk).toNat)
   case atStart => exact ⟨0, Nat.zero_le _, rfl, HN, HB⟩
   case round =>
    obtain ⟨k, hk, rfl, HN2, HB2⟩ := hrel
    by_cases hki : k < i
    ·obtain ⟨q1, bi, oi, ni, ci, ma, mn, mc, e1, hq1, hni, c1, d1, hm1, hsm1, -⟩ := choice_reach (unhide HS) ((unhide HC).up hb (unhide HB2)) hlt hl (unhide HIN)
     obtain ⟨q2, bk, ok, nk, ck, ma2, mn2, mc2, e2, hq2, hnk, c2, d2, hm2, hsm2, -⟩ := choice_reach (unhide HS) ((unhide HC).up hb (unhide HB2)) (show k < ps.length by omega) hl (unhide HIN)
     have p1 := (unhide HP).up hb2 (unhide HB2) i hlt
     have p2 := (unhide HP).up hb2 (unhide HB2) k (by omega)
     rw [e1] at p1
     rw [e2] at p2
     have HA := hide (fun (x : LaterW wr) => specAgree_any (stampAt ws ps i) (.slice ma mn mc) (stampAt ws ps k) (.slice ma2 mn2 mc2) x.to hsm1 hsm2 (hm1.up x.bel) (hm2.up x.bel))
     have r0 : ∀ x : LaterW wr, x.to.cell? ⟨b2, off2 + i, none⟩ = some (.int .i64 (q1 : Int)) := fun x => x.cell p1
     have r1 : ∀ x : LaterW wr, x.to.cell? ⟨b2, off2 + k, none⟩ = some (.int .i64 (q2 : Int)) := fun x => x.cell p2
     have r2 : ∀ x : LaterW wr, x.to.cell? ⟨b, off + i, none⟩ = some (.slice (some ⟨bi, oi, none⟩) ni ci) := fun x => x.cell c1
     have r3 : ∀ x : LaterW wr, x.to.cell? ⟨b, off + k, none⟩ = some (.slice (some ⟨bk, ok, none⟩) nk ck) := fun x => x.cell c2
     have r4 : ∀ x : LaterW wr, x.to.cell? ⟨bi, oi + q1 * 2 + 1, none⟩ = some (.slice ma mn mc) := fun x => x.cell d1
     have r5 : ∀ x : LaterW wr, x.to.cell? ⟨bk, ok + q2 * 2 + 1, none⟩ = some (.slice ma2 mn2 mc2) := fun x => x.cell d2
     have HNO := hide (fun h => pair_no (ws := ws) hlt hki h)
     have HYES := hide (fun h => pairs_step (unhide HN2) h)
     unfold pairB at HNO HYES
     generalize agreeOut (stampAt ws ps i) (stampAt ws ps k) = r at *
     clear hm1 hm2 hsm1 hsm2 c1 c2 d1 d2 p1 p2 e1 e2
     have g1 : i < ws.length := by omega
     have g2 : k < ws.length := by omega
     have g3 : k < ps.length := by omega
     cases r
     ·have HE := hide (unhide HNO rfl)
      clear HYES HNO
      go_wp2_with fail
      refine wp_region_later (by kernel_rfl) (by kernel_rfl) ?_
      repeat (go_big_quiet_step ((go_at_call 101; exact quiet_ret (unhide HA _))))
      refine wpQuiet_nil ?_
      rintro _ ⟨x, rfl⟩
      have B3 := hide ((unhide HB2).trans (x.bel.mono (unhide HB2).size))
      go_wp2_with fail
      go_ret
      exact ⟨ret_bool (unhide HE).symm, unhide B3⟩
     ·have HY := hide (unhide HYES rfl)
      clear HYES HNO
      go_wp2_with fail
      refine wp_region_later (by kernel_rfl) (by kernel_rfl) ?_
      repeat (go_big_quiet_step ((go_at_call 101; exact quiet_ret (unhide HA _))))
      refine wpQuiet_nil ?_
      rintro _ ⟨x, rfl⟩
      have B3 := hide ((unhide HB2).trans (x.bel.mono (unhide HB2).size))
      go_wp2_with fail
      go_roundw
      case rel => exact ⟨k + 1, by omega, by go_num, HY, B3⟩
      case measure => simp [intOf]; omega
    ·obtain rfl : k = i := by omega
     have HY := hide (pairs_next (unhide HN2))
     go_wp2_with fail
     go_roundw
     case rel => exact ⟨k + 1, by omega, by go_num, HY, HB2⟩
     case measure => simp [intOf]; omega
  ·have HE := hide (pairs_all (by omega) (unhide HN))
   go_wp2_with fail
   go_ret
   exact ⟨ret_bool (unhide HE).symm, unhide HB⟩
end Go.Proofs.YtknkdbfgfcgkiaaGreatDoor

set_option linter.unusedVariables false
namespace Go.Proofs.YtknkdbfgfcgkiaaGreatDoor
open Go.RowKit Go.Maps Go.Deep

set_option maxHeartbeats 3200000 in
theorem windowsOk_any (ws : List (List ItemV)) (v : Value) (w : World) (hs : SmallItemSS ws) (h : ItemSSRd w v ws) :
  Calls Tryz.prog 87 #[v] w fun e w' => e = .returned (.bool (winsB ws)) ∧ Below w.heap.size w w' := by
 obtain ⟨a, c, rfl, h⟩ := h
 have hn := hs.1
 by_cases h1 : ws.length < 1
 ·have HE := hide (winsB_no_len (.inl h1))
  rw [unhide HE]
  generalize ws.length = n at *
  clear h hs HE
  have h1' : (n : Int) < 1 := by omega
  go_enter Tryz.func87, Tryz.ntmps87
  go_wp2_with fail
  go_ret
  exact ⟨rfl, Below.refl _ _⟩
 by_cases h6 : 6 < ws.length
 ·have HE := hide (winsB_no_len (.inr h6))
  rw [unhide HE]
  generalize ws.length = n at *
  clear h hs HE
  have h1' : ¬ (n : Int) < 1 := by omega
  have h6' : 6 < (n : Int) := by omega
  go_enter Tryz.func87, Tryz.ntmps87
  go_wp2_with fail
  go_ret
  exact ⟨rfl, Below.refl _ _⟩
 rcases h with rfl | ⟨b, off, rfl, hb, hc⟩
 ·simp at h1
 have HC := hide hc
 have HS := hide hs.2
 have h1' : ¬ (ws.length : Int) < 1 := by omega
 have h6' : ¬ 6 < (ws.length : Int) := by omega
 clear hc hs
 go_enter Tryz.func87, Tryz.ntmps87
 go_wp2_with fail
 go_loopw [15] (fun i wr => ∃ (k : Nat), k ≤ ws.length ∧ i = .int .i64 k ∧ Hid (∀ j (hj : j < ws.length), j < k → windowB orderOut ws[j] = true) ∧ Hid (Below w.heap.size w wr)) (fun i _ => ws.length - (intOf i).toNat)
 case atStart => exact ⟨0, Nat.zero_le _, rfl, hide (fun j _ hj => absurd hj (Nat.not_lt_zero _)), Below.refl _ _⟩
 case round =>
  obtain ⟨k, hk, rfl, HN, HB⟩ := hrel
  by_cases hlt : k < ws.length
  ·obtain ⟨v, c0, hv⟩ := (unhide HC).up hb (unhide HB) k hlt
   have HV := hide (implWindow_any ws[k] v wr (unhide HS _ (List.getElem_mem hlt)) hv)
   have HNO := hide (fun h => winsB_no hlt h)
   have HYES := hide (show windowB orderOut ws[k] = true → ∀ j (hj : j < ws.length), j < k + 1 → windowB orderOut ws[j] = true from fun h j hj hjk => by
    by_cases e : j = k
    ·subst e; exact h
    ·exact unhide HN j hj (by omega))
   obtain ⟨va, vn, vc, rfl⟩ := hv.form
   clear hv
   cases hw : windowB orderOut ws[k]
   ·rw [hw] at HV
    have HE := hide (unhide HNO hw)
    clear HYES HNO hw
    go_wp2_with fail
    refine (unhide HV).mono ?_
    rintro e w1 ⟨rfl, b1⟩
    have B1 := hide ((unhide HB).trans (b1.mono (unhide HB).size))
    clear b1 c0
    go_wp2_with fail
    go_ret
    exact ⟨ret_bool (unhide HE).symm, unhide B1⟩
   ·rw [hw] at HV
    have HY := hide (unhide HYES hw)
    clear HYES HNO hw
    go_wp2_with fail
    refine (unhide HV).mono ?_
    rintro e w1 ⟨rfl, b1⟩
    have B1 := hide ((unhide HB).trans (b1.mono (unhide HB).size))
    clear b1 c0
    go_wp2_with fail
    go_roundw
    case rel => exact ⟨k + 1, by omega, by go_num, HY, B1⟩
    case measure => simp [intOf]; omega
  ·have HE := hide (winsB_yes (by omega) (by omega) (fun j hj => unhide HN j hj (by omega)))
   go_wp2_with fail
   go_ret
   exact ⟨ret_bool (unhide HE).symm, unhide HB⟩
end Go.Proofs.YtknkdbfgfcgkiaaGreatDoor

set_option linter.unusedVariables false
namespace Go.Proofs.YtknkdbfgfcgkiaaGreatDoor
open Go.RowKit Go.Maps Go.Deep

def gatherB (g : GatherV) : Bool := insB g.ins && (decide (g.wins.length = g.ins.length) && (winsB g.wins && mstampB g.shown))
theorem gather_parts {w : World} {g : GatherV} {a0 a1 a2 : Option Addr} {n0 c0 n1 c1 n2 c2 : Nat} (h : GatherRd w (.agg #[.slice a0 n0 c0, .slice a1 n1 c1, .slice a2 n2 c2]) g) : n0 = g.ins.length ∧ n1 = g.wins.length ∧ ∀ W, Below w.heap.size w W → StringSRd W (.slice a0 n0 c0) g.ins ∧ ItemSSRd W (.slice a1 n1 c1) g.wins ∧ MarkSRd W (.slice a2 n2 c2) g.shown := by
 have key : ∀ W, Below w.heap.size w W → StringSRd W (.slice a0 n0 c0) g.ins ∧ ItemSSRd W (.slice a1 n1 c1) g.wins ∧ MarkSRd W (.slice a2 n2 c2) g.shown := fun W b => by
  obtain ⟨v0, v1, v2, e, h0, h1, h2⟩ := h.up b
  simp only [Value.agg.injEq, Array.mk.injEq, List.cons.injEq, and_true] at e
  obtain ⟨rfl, rfl, rfl⟩ := e
  exact ⟨h0, h1, h2⟩
 obtain ⟨k0, k1, _⟩ := key w (Below.refl _ _)
 obtain ⟨_, _, e0, _⟩ := k0
 obtain ⟨_, _, e1, _⟩ := k1
 simp only [Value.slice.injEq] at e0 e1
 exact ⟨e0.2.1, e1.2.1, key⟩
theorem inputsOk_rd (ins : List ByteArray) (a : Option Addr) (n c : Nat) (w : World) (hs : SmallStringS ins) (hcap : n ≤ c) (h : StringSRd w (.slice a n c) ins) :
  Calls Tryz.prog 86 #[.slice a n c] w fun e w' => e = .returned (.bool (insB ins)) ∧ Below w.heap.size w w' := by
 obtain ⟨a', c', e, h⟩ := h
 simp only [Value.slice.injEq] at e
 obtain ⟨rfl, rfl, rfl⟩ := e
 exact inputsOk_any ins a c w hs hcap h
set_option maxHeartbeats 3200000 in
theorem specGatherOk_any (d : GatherV) (v : Value) (w : World) {S : List Nat} (hs : SmallGather d) (h : GatherOwn S w v d) :
  Calls Tryz.prog 22 #[v] w fun e w' => e = .returned (.bool (gatherB d)) ∧ Below w.heap.size w w' := by
 obtain ⟨a0, n0, c0, a1, n1, c1, a2, n2, c2, rfl⟩ := h.rd.form
 obtain ⟨e0, e1, hp⟩ := gather_parts h.rd
 have hroom := h.2.2 a0 n0 c0 _ _ rfl
 have HP := hide hp
 have HS := hide hs
 have hz0 := hs.1.1
 have hz1 := hs.2.1.1
 have HB := hide (show gatherB d = (insB d.ins && (decide (n1 = n0) && (winsB d.wins && mstampB d.shown))) by rw [e0, e1]; rfl)
 rw [← e0] at hz0
 rw [← e1] at hz1
 have H1 := hide (fun W (b : Below w.heap.size w W) => l16Ins_any d.ins (.slice a0 n0 c0) W hs.1 (hp W b).1)
 have H2 := hide (fun W (b : Below w.heap.size w W) => l15Ok_any d.wins (.slice a1 n1 c1) W hs.2.1 (hp W b).2.1)
 have H3 := hide (fun W (b : Below w.heap.size w W) => specStampOk_any d.shown (.slice a2 n2 c2) W hs.2.2 (hp W b).2.2)
 clear h hp hs e0 e1 hroom HP HS
 rw [unhide HB]
 clear HB
 generalize insB d.ins = r1 at *
 generalize winsB d.wins = r2 at *
 generalize mstampB d.shown = r3 at *
 obtain ⟨bx, bb, zz⟩ := boxNew3 w (.slice a0 n0 c0) (.slice a1 n1 c1) (.slice a2 n2 c2) 36
 obtain ⟨x0, x1, x2⟩ := bx.three
 go_enter Tryz.func22, Tryz.ntmps22
 go_wp2_with fail
 generalize w.alloc (.cells #[.slice a0 n0 c0, .slice a1 n1 c1, .slice a2 n2 c2] 36) = W at *
 have X := hide bx
 have B0 := hide bb
 clear bx bb zz x0 x1 x2
 refine (unhide H1 _ (unhide B0)).mono ?_
 rintro e w1 ⟨rfl, b1⟩
 have X1 := hide ((unhide X).up b1)
 have B1 := hide ((unhide B0).trans (b1.mono (unhide B0).size))
 clear b1 X B0 H1
 obtain ⟨x0, x1, x2⟩ := (unhide X1).three
 cases r1
 ·go_wp2_with fail
  go_ret
  exact ⟨rfl, unhide B1⟩
 by_cases hn : n1 = n0
 ·subst hn
  go_wp2_with fail
  clear x0 x1 x2
  refine (unhide H2 _ (unhide B1)).mono ?_
  rintro e w2 ⟨rfl, b2⟩
  have X2 := hide ((unhide X1).up b2)
  have B2 := hide ((unhide B1).trans (b2.mono (unhide B1).size))
  clear b2 X1 B1 H2
  obtain ⟨x0, x1, x2⟩ := (unhide X2).three
  cases r2
  ·go_wp2_with fail
   go_ret
   exact ⟨ret_bool (by simp), unhide B2⟩
  go_wp2_with fail
  clear x0 x1 x2
  refine (unhide H3 _ (unhide B2)).mono ?_
  rintro e w3 ⟨rfl, b3⟩
  have B3 := hide ((unhide B2).trans (b3.mono (unhide B2).size))
  clear b3 X2 B2 H3
  go_wp2_with fail
  go_ret
  exact ⟨ret_bool (by simp), unhide B3⟩
 ·have q1 : ((n1 : Int) == (n0 : Int)) = false := by rw [beq_eq_false_iff_ne]; omega
  have q2 := hide (decide_eq_false hn)
  clear hn
  go_wp2_with fail
  go_ret
  exact ⟨ret_bool (by rw [unhide q2]; rfl), unhide B1⟩
set_option maxHeartbeats 3200000 in
theorem implGatherOk_any (d : GatherV) (v : Value) (w : World) {S : List Nat} (hs : SmallGather d) (h : GatherOwn S w v d) :
  Calls Tryz.prog 65 #[v] w fun e w' => e = .returned (.bool (gatherB d)) ∧ Below w.heap.size w w' := by
 obtain ⟨a0, n0, c0, a1, n1, c1, a2, n2, c2, rfl⟩ := h.rd.form
 obtain ⟨e0, e1, hp⟩ := gather_parts h.rd
 have hroom := h.2.2 a0 n0 c0 _ _ rfl
 have HP := hide hp
 have HS := hide hs
 have hz0 := hs.1.1
 have hz1 := hs.2.1.1
 have HB := hide (show gatherB d = (insB d.ins && (decide (n1 = n0) && (winsB d.wins && mstampB d.shown))) by rw [e0, e1]; rfl)
 rw [← e0] at hz0
 rw [← e1] at hz1
 have H1 := hide (fun W (b : Below w.heap.size w W) => inputsOk_rd d.ins a0 n0 c0 W hs.1 hroom (hp W b).1)
 have H2 := hide (fun W (b : Below w.heap.size w W) => windowsOk_any d.wins (.slice a1 n1 c1) W hs.2.1 (hp W b).2.1)
 have H3 := hide (fun W (b : Below w.heap.size w W) => implStampOk_any d.shown (.slice a2 n2 c2) W hs.2.2 (hp W b).2.2)
 clear h hp hs e0 e1 hroom HP HS
 rw [unhide HB]
 clear HB
 generalize insB d.ins = r1 at *
 generalize winsB d.wins = r2 at *
 generalize mstampB d.shown = r3 at *
 obtain ⟨bx, bb, zz⟩ := boxNew3 w (.slice a0 n0 c0) (.slice a1 n1 c1) (.slice a2 n2 c2) 36
 obtain ⟨x0, x1, x2⟩ := bx.three
 go_enter Tryz.func65, Tryz.ntmps65
 go_wp2_with fail
 generalize w.alloc (.cells #[.slice a0 n0 c0, .slice a1 n1 c1, .slice a2 n2 c2] 36) = W at *
 have X := hide bx
 have B0 := hide bb
 clear bx bb zz x0 x1 x2
 refine (unhide H1 _ (unhide B0)).mono ?_
 rintro e w1 ⟨rfl, b1⟩
 have X1 := hide ((unhide X).up b1)
 have B1 := hide ((unhide B0).trans (b1.mono (unhide B0).size))
 clear b1 X B0 H1
 obtain ⟨x0, x1, x2⟩ := (unhide X1).three
 cases r1
 ·go_wp2_with fail
  go_ret
  exact ⟨rfl, unhide B1⟩
 by_cases hn : n1 = n0
 ·subst hn
  go_wp2_with fail
  clear x0 x1 x2
  refine (unhide H2 _ (unhide B1)).mono ?_
  rintro e w2 ⟨rfl, b2⟩
  have X2 := hide ((unhide X1).up b2)
  have B2 := hide ((unhide B1).trans (b2.mono (unhide B1).size))
  clear b2 X1 B1 H2
  obtain ⟨x0, x1, x2⟩ := (unhide X2).three
  cases r2
  ·go_wp2_with fail
   go_ret
   exact ⟨ret_bool (by simp), unhide B2⟩
  go_wp2_with fail
  clear x0 x1 x2
  refine (unhide H3 _ (unhide B2)).mono ?_
  rintro e w3 ⟨rfl, b3⟩
  have B3 := hide ((unhide B2).trans (b3.mono (unhide B2).size))
  clear b3 X2 B2 H3
  go_wp2_with fail
  go_ret
  exact ⟨ret_bool (by simp), unhide B3⟩
 ·have q1 : ((n1 : Int) == (n0 : Int)) = false := by rw [beq_eq_false_iff_ne]; omega
  have q2 := hide (decide_eq_false hn)
  clear hn
  go_wp2_with fail
  go_ret
  exact ⟨ret_bool (by rw [unhide q2]; rfl), unhide B1⟩
end Go.Proofs.YtknkdbfgfcgkiaaGreatDoor
