/-
  StampOk of the program.
-/
/-
  Windows: the program's way to hold two stamps' sources against each other.
-/
/-
  WindowOk of the specification.
-/
import Derived.Test.YtknkdbfgfcgkiaaGreatDoorMerged14
import Derived.Test.YtknkdbfgfcgkiaaGreatDoorMerged10
import Derived.Test.YtknkdbfgfcgkiaaGreatDoorMerged7
import Derived.Test.YtknkdbfgfcgkiaaGreatDoorMerged4
set_option linter.unusedVariables false
namespace Go.Proofs.YtknkdbfgfcgkiaaGreatDoor
open Go.RowKit Go.Maps Go.Deep

theorem specStampOk_any (ns : List MarkV) (v : Value) (w : World) (hs : SmallMarkS ns) (h : MarkSRd w v ns) : Calls Tryz.prog 55 #[v] w fun e w' => e = .returned (.bool (mstampB ns)) ∧ Below w.heap.size w w' :=
 specStamp_any w v ns hs.2 h
set_option maxHeartbeats 1600000 in
theorem markOk_any (z0 : ByteArray) (z1 : Int) (w : World) (hz : z0.size ≤ maxLen) :
  Calls Tryz.prog 105 #[.agg #[.string z0, .int .i64 z1]] w fun e w' => e = .returned (.bool (markB ⟨z0, z1⟩)) ∧ Below w.heap.size w w' := by
 have HP := hide (fun W => implPlain_any z0 W hz)
 clear hz
 rcases mark_cases ⟨z0, z1⟩ with ⟨hv, p1, p2, p3⟩ | ⟨hv, hcase⟩
 ·rw [hv]
  simp only at p1 p2 p3
  rw [p1] at HP
  clear hv
  go_enter Tryz.func105, Tryz.ntmps105
  go_wp2_with fail
  refine (unhide HP _).mono ?_
  rintro e w1 ⟨rfl, b1⟩
  obtain ⟨e0, e1⟩ := vbox b1
  have B1 := hide (Below.trans (by go_grown : Below w.heap.size w _) (b1.mono (by simp)))
  clear b1
  go_wp2_with fail
  go_ret
  exact ⟨ret_bool (by simp <;> omega), unhide B1⟩
 ·rw [hv]
  clear hv
  simp only at hcase
  rcases hcase with p1 | ⟨p1, p2⟩ | ⟨p1, p2, p3⟩
  all_goals
   rw [p1] at HP
   go_enter Tryz.func105, Tryz.ntmps105
   go_wp2_with fail
   refine (unhide HP _).mono ?_
   rintro e w1 ⟨rfl, b1⟩
   obtain ⟨e0, e1⟩ := vbox b1
   have B1 := hide (Below.trans (by go_grown : Below w.heap.size w _) (b1.mono (by simp)))
   clear b1
   go_wp2_with fail
   go_ret
   exact ⟨ret_bool (by simp <;> omega), unhide B1⟩
set_option maxHeartbeats 6400000 in
theorem implStamp_row (w : World) (b off c : Nat) (ns : List MarkV) (h12 : (ns.length : Int) ≤ 12) (hc : MarkAt w b off ns) (hb : b < w.heap.size) (hs : MarkOk ns) :
  Calls Tryz.prog 88 #[.slice (some ⟨b, off, none⟩) ns.length c] w fun e w' => e = .returned (.bool (mstampB ns)) ∧ Below w.heap.size w w' := by
 have HS := hide hs
 have HC := hide hc
 have g12 : ¬ 12 < (ns.length : Int) := by omega
 clear hs hc
 go_enter Tryz.func88, Tryz.ntmps88
 go_wp2_with fail
 go_loopw [10] (fun i wr => ∃ k : Nat, k ≤ ns.length ∧ i = .int .i64 k ∧ Hid (MStampTo ns k) ∧ Hid (Below w.heap.size w wr)) (fun i _ => ns.length - (intOf i).toNat)
 case atStart => exact ⟨0, Nat.zero_le _, rfl, mstamp_zero ns, Below.refl _ _⟩
 case round =>
  obtain ⟨k, hk, rfl, HG, HBr⟩ := hrel
  by_cases hlt : k < ns.length
  ·have HCr := hide ((unhide HC).below (unhide HBr) hb)
   obtain ⟨c0, c1⟩ := unhide HCr k hlt
   have hname := hide (unhide HS _ (List.getElem_mem hlt)).1
   have HP := hide (fun W => markOk_any ns[k].a0 ns[k].a1 W (unhide hname))
   cases hv : markB ns[k]
   ·have HP2 : Hid (∀ W : World, Calls Tryz.prog 105 #[.agg #[.string ns[k].a0, .int .i64 ns[k].a1]] W fun e w' => e = .returned (.bool false) ∧ Below W.heap.size W w') := by
     have := unhide HP
     rw [show (⟨ns[k].a0, ns[k].a1⟩ : MarkV) = ns[k] from rfl, hv] at this
     exact this
    clear HP
    have HR := hide (mstamp_bad hlt hv).symm
    clear hv
    generalize ns[k].a0 = nm at *
    generalize ns[k].a1 = vl at *
    obtain ⟨bx, bb, zz⟩ := boxNew2 wr (.string nm) (.int .i64 vl) 112
    go_wp2_with fail
    generalize wr.alloc (.cells #[.string nm, .int .i64 vl] 112) = W at *
    have BX := hide bx
    have BW := hide bb
    clear bx bb zz
    have r0 : ∀ x : LaterW W, x.to.cell? ⟨wr.heap.size, 0, none⟩ = some (.string nm) := fun x => x.cell (unhide BX).two.1
    have r1 : ∀ x : LaterW W, x.to.cell? ⟨wr.heap.size, 1, none⟩ = some (.int .i64 vl) := fun x => x.cell (unhide BX).two.2
    refine wp_region_later (by kernel_rfl) (by kernel_rfl) ?_
    repeat (go_big_quiet_step ((go_at_call 105; exact quiet_ret (unhide HP2 _))))
    refine wpQuiet_nil ?_
    rintro _ ⟨x, rfl⟩
    obtain ⟨w1, BB⟩ := x
    dsimp only
    clear r0 r1
    have B1 := hide ((unhide HBr).trans (Below.mono ((unhide BW).trans (BB.mono (unhide BW).size)) (unhide HBr).size))
    go_wp2_with fail
    go_ret
    exact ⟨ret_bool (unhide HR), unhide B1⟩
   ·have HP2 : Hid (∀ W : World, Calls Tryz.prog 105 #[.agg #[.string ns[k].a0, .int .i64 ns[k].a1]] W fun e w' => e = .returned (.bool true) ∧ Below W.heap.size W w') := by
     have := unhide HP
     rw [show (⟨ns[k].a0, ns[k].a1⟩ : MarkV) = ns[k] from rfl, hv] at this
     exact this
    clear HP
    by_cases hk0 : k = 0
    ·have HG2 := hide (show MStampTo ns (k + 1) by subst hk0; exact mstamp_step0 hlt hv)
     have d0 : decide (0 < k) = false := by simp; omega
     clear hv hk0
     generalize ns[k].a0 = nm at *
     generalize ns[k].a1 = vl at *
     obtain ⟨bx, bb, zz⟩ := boxNew2 wr (.string nm) (.int .i64 vl) 112
     go_wp2_with fail
     generalize wr.alloc (.cells #[.string nm, .int .i64 vl] 112) = W at *
     have BX := hide bx
     have BW := hide bb
     clear bx bb zz
     have r0 : ∀ x : LaterW W, x.to.cell? ⟨wr.heap.size, 0, none⟩ = some (.string nm) := fun x => x.cell (unhide BX).two.1
     have r1 : ∀ x : LaterW W, x.to.cell? ⟨wr.heap.size, 1, none⟩ = some (.int .i64 vl) := fun x => x.cell (unhide BX).two.2
     refine wp_region_later (by kernel_rfl) (by kernel_rfl) ?_
     repeat (go_big_quiet_step ((go_at_call 105; exact quiet_ret (unhide HP2 _))))
     refine wpQuiet_nil ?_
     rintro _ ⟨x, rfl⟩
     obtain ⟨w1, BB⟩ := x
     dsimp only
     clear r0 r1
     have B1 := hide ((unhide HBr).trans (Below.mono ((unhide BW).trans (BB.mono (unhide BW).size)) (unhide HBr).size))
     go_wp2_with fail
     go_roundw
     case rel => exact ⟨k + 1, by omega, by go_num, HG2, hide (unhide B1)⟩
     case measure => simp [intOf]; omega
    ·obtain ⟨j, hj⟩ : ∃ j, k = j + 1 := ⟨k - 1, by omega⟩
     have hjl : j < ns.length := by omega
     have HUP := hide (show lessS ns[j].a0 ns[k].a0 = true → MStampTo ns (k + 1) by subst hj; exact mstamp_step hlt (unhide HG) hv)
     have HDN := hide (show lessS ns[j].a0 ns[k].a0 = false → false = mstampB ns by subst hj; exact fun h => (mstamp_down hlt h).symm)
     have HJ := hide (fun X (bx : Below w.heap.size w X) => ((unhide HC).below bx hb j hjl).1)
     have hsub : (k : Int) - 1 = (j : Int) := by omega
     have hwr : IntKind.i64.wrap (j : Int) = (j : Int) := wrap_small _ (by omega) (by omega)
     have d0 : decide (0 < k) = true := by simp; omega
     have d1 : (j : Int) < (ns.length : Int) := by omega
     have HLE := hide (geq_leq ns[k].a0 ns[j].a0)
     clear hv hj hk0
     generalize ns[k].a0 = nm at *
     generalize ns[k].a1 = vl at *
     generalize ns[j].a0 = nj at *
     obtain ⟨bx, bb, zz⟩ := boxNew2 wr (.string nm) (.int .i64 vl) 112
     go_wp2_with fail
     generalize wr.alloc (.cells #[.string nm, .int .i64 vl] 112) = W at *
     have BX := hide bx
     have BW := hide bb
     clear bx bb zz
     have r0 : ∀ x : LaterW W, x.to.cell? ⟨wr.heap.size, 0, none⟩ = some (.string nm) := fun x => x.cell (unhide BX).two.1
     have r1 : ∀ x : LaterW W, x.to.cell? ⟨wr.heap.size, 1, none⟩ = some (.int .i64 vl) := fun x => x.cell (unhide BX).two.2
     have r2 : ∀ x : LaterW W, x.to.cell? ⟨b, off + j * 2, none⟩ = some (.string nj) := fun x => x.cell (unhide HJ W ((unhide HBr).trans ((unhide BW).mono (unhide HBr).size)))
     refine wp_region_later (by kernel_rfl) (by kernel_rfl) ?_
     repeat (go_big_quiet_step ((go_at_call 105; exact quiet_ret (unhide HP2 _))))
     refine wpQuiet_nil ?_
     rintro _ ⟨x, rfl⟩
     obtain ⟨w1, BB⟩ := x
     dsimp only
     clear r0 r1 r2
     have B1 := hide ((unhide HBr).trans (Below.mono ((unhide BW).trans (BB.mono (unhide BW).size)) (unhide HBr).size))
     rw [unhide HLE]
     cases hless : lessS nj nm
     ·go_wp2_with fail
      go_ret
      exact ⟨ret_bool (unhide HDN hless), unhide B1⟩
     ·have HG2 := hide (unhide HUP hless)
      go_wp2_with fail
      go_roundw
      case rel => exact ⟨k + 1, by omega, by go_num, HG2, hide (unhide B1)⟩
      case measure => simp [intOf]; omega
  ·have e : k = ns.length := by omega
   have HR := hide (show true = mstampB ns from (mstamp_good (by omega) (by rw [e] at HG; exact unhide HG)).symm)
   clear e
   go_wp2_with fail
   go_ret
   exact ⟨ret_bool (unhide HR), unhide HBr⟩
theorem implStamp_none (w : World) (a : Option Addr) (cap : Nat) : Calls Tryz.prog 88 #[.slice a 0 cap] w fun e w' => e = .returned (.bool (mstampB [])) ∧ Below w.heap.size w w' := by
 go_enter Tryz.func88, Tryz.ntmps88
 go_wp2_with fail
 refine wp_loop_rounds 1 ?_
 rw [rounds_succ]
 go_wp2_with fail
 go_ret
 exact ⟨rfl, Below.refl _ _⟩
theorem implStamp_long (w : World) (a : Option Addr) (cap : Nat) (ns : List MarkV) (hl : ¬ (ns.length : Int) ≤ 12) : Calls Tryz.prog 88 #[.slice a ns.length cap] w fun e w' => e = .returned (.bool (mstampB ns)) ∧ Below w.heap.size w w' := by
 have HR := hide (show false = mstampB ns from (mstamp_long (by omega)).symm)
 have g : 12 < (ns.length : Int) := by omega
 generalize ns.length = n at *
 go_enter Tryz.func88, Tryz.ntmps88
 go_wp2_with fail
 go_ret
 exact ⟨ret_bool (unhide HR), Below.refl _ _⟩
theorem implStampOk_any (ns : List MarkV) (v : Value) (w : World) (hs : SmallMarkS ns) (h : MarkSRd w v ns) : Calls Tryz.prog 88 #[v] w fun e w' => e = .returned (.bool (mstampB ns)) ∧ Below w.heap.size w w' := by
 obtain ⟨a, c, rfl, h⟩ := h
 by_cases hl : (ns.length : Int) ≤ 12
 ·rcases h with rfl | ⟨b, off, rfl, hb, hc⟩
  ·exact implStamp_none w a c
  ·exact implStamp_row w b off c ns hl hc hb hs.2
 ·exact implStamp_long w a c ns hl
end Go.Proofs.YtknkdbfgfcgkiaaGreatDoor

set_option linter.unusedVariables false
namespace Go.Proofs.YtknkdbfgfcgkiaaGreatDoor
open Go.RowKit Go.Maps Go.Deep

set_option maxHeartbeats 1600000 in
theorem sameSource_any (x y : MarkV) (w : World) :
  Calls Tryz.prog 119 #[.agg #[.string x.a0, .int .i64 x.a1], .agg #[.string y.a0, .int .i64 y.a1]] w fun e w' => e = .returned (.bool (x.a0.toList == y.a0.toList)) ∧ Below w.heap.size w w' := by
 go_enter Tryz.func119, Tryz.ntmps119
 go_wp2_with fail
 go_ret
 exact ⟨rfl, by go_grown⟩
set_option maxHeartbeats 3200000 in
theorem equalFunc_row (w : World) (b off c b' off' c' : Nat) (xa xb : List MarkV) (hl : xa.length = xb.length) (hs : xa.length ≤ 1048576) (hA : MarkAt w b off xa) (hB : MarkAt w b' off' xb) (hb : b < w.heap.size) (hb' : b' < w.heap.size) :
  Calls Tryz.prog 120 #[.slice (some ⟨b, off, none⟩) xa.length c, .slice (some ⟨b', off', none⟩) xb.length c', .func (.func 119) #[] #[]] w fun e w' => e = .returned (.bool (srcB xa xb)) ∧ Below w.heap.size w w' := by
 have HA := hide hA
 have HB := hide hB
 have HL := hide hl
 clear hA hB
 rw [← hl]
 clear hl
 go_enter Tryz.func120, Tryz.ntmps120
 go_wp2_with fail
 go_loopw [17] (fun i wr => ∃ k : Nat, k ≤ xa.length ∧ i = .int .i64 k ∧ Hid (∀ j (h : j < xa.length) (h' : j < xb.length), j < k → xa[j].a0 = xb[j].a0) ∧ Hid (Below w.heap.size w wr)) (fun i _ => xa.length - (intOf i).toNat)
 case atStart => exact ⟨0, Nat.zero_le _, rfl, hide (fun j _ _ hj => absurd hj (Nat.not_lt_zero _)), Below.refl _ _⟩
 case round =>
  obtain ⟨k, hk, rfl, HN, HBr⟩ := hrel
  by_cases hlt : k < xa.length
  ·have hlt' : k < xb.length := by have := unhide HL; omega
   obtain ⟨c0, c1⟩ := (unhide HA).below (unhide HBr) hb k hlt
   obtain ⟨d0, d1⟩ := (unhide HB).below (unhide HBr) hb' k hlt'
   have hbr := Nat.lt_of_lt_of_le hb (unhide HBr).size
   have hbr' := Nat.lt_of_lt_of_le hb' (unhide HBr).size
   have HC := hide (fun W => sameSource_any xa[k] xb[k] W)
   have HUP := hide (show (xa[k].a0.toList == xb[k].a0.toList) = true → ∀ j (h : j < xa.length) (h' : j < xb.length), j < k + 1 → xa[j].a0 = xb[j].a0 from fun he j h h' hj => by
     by_cases e : j = k
     ·subst e; rw [str_same] at he; simpa using he
     ·exact unhide HN j h h' (by omega))
   have HDN := hide (show (xa[k].a0.toList == xb[k].a0.toList) = false → false = srcB xa xb from fun he => (src_off hlt hlt' (by rw [str_same] at he; simpa using he)).symm)
   generalize (xa[k].a0.toList == xb[k].a0.toList) = q at *
   generalize xa[k].a0 = nm at *
   generalize xa[k].a1 = vl at *
   generalize xb[k].a0 = nb at *
   generalize xb[k].a1 = vb at *
   go_wp2_with fail
   refine (unhide HC _).mono ?_
   rintro e w1 ⟨rfl, b1⟩
   have B1 := hide ((unhide HBr).trans (Below.mono (Below.trans (by go_grown : Below wr.heap.size wr _) (b1.mono (by simp; omega))) (unhide HBr).size))
   clear b1 c0 c1 d0 d1
   cases q
   ·have HR := hide (unhide HDN rfl)
    clear HDN HUP
    go_wp2_with fail
    go_ret
    exact ⟨ret_bool (unhide HR), unhide B1⟩
   ·have HN2 := hide (unhide HUP rfl)
    clear HDN HUP
    go_wp2_with fail
    go_roundw
    case rel => exact ⟨k + 1, by omega, by go_num, HN2, B1⟩
    case measure => simp [intOf]; omega
  ·have HR := hide (src_on (unhide HL) (fun i h h' => unhide HN i h h' (by omega))).symm
   go_wp2_with fail
   go_ret
   exact ⟨ret_bool (unhide HR), unhide HBr⟩
theorem equalFunc_len (w : World) (a a' : Option Addr) (c c' : Nat) (xa xb : List MarkV) (hl : xa.length ≠ xb.length) (h1 : xa.length ≤ 1048576) (h2 : xb.length ≤ 1048576) :
  Calls Tryz.prog 120 #[.slice a xa.length c, .slice a' xb.length c', .func (.func 119) #[] #[]] w fun e w' => e = .returned (.bool (srcB xa xb)) ∧ Below w.heap.size w w' := by
 have HR := hide (src_len hl).symm
 have e : ((xa.length : Int) == (xb.length : Int)) = false := by rw [beq_eq_false_iff_ne]; omega
 generalize xa.length = n at *
 generalize xb.length = m at *
 go_enter Tryz.func120, Tryz.ntmps120
 go_wp2_with fail
 go_ret
 exact ⟨ret_bool (unhide HR), Below.refl _ _⟩
theorem equalFunc_none (w : World) (a a' : Option Addr) (c c' : Nat) :
  Calls Tryz.prog 120 #[.slice a 0 c, .slice a' 0 c', .func (.func 119) #[] #[]] w fun e w' => e = .returned (.bool true) ∧ Below w.heap.size w w' := by
 go_enter Tryz.func120, Tryz.ntmps120
 go_wp2_with fail
 refine wp_loop_rounds 1 ?_
 rw [rounds_succ]
 go_wp2_with fail
 go_ret
 exact ⟨rfl, Below.refl _ _⟩
theorem equalFunc_any (xa : List MarkV) (va : Value) (xb : List MarkV) (vb : Value) (w : World) (hsa : SmallMarkS xa) (hsb : SmallMarkS xb) (hA : MarkSRd w va xa) (hB : MarkSRd w vb xb) :
  Calls Tryz.prog 120 #[va, vb, .func (.func 119) #[] #[]] w fun e w' => e = .returned (.bool (srcB xa xb)) ∧ Below w.heap.size w w' := by
 obtain ⟨a, c, rfl, hA⟩ := hA
 obtain ⟨a', c', rfl, hB⟩ := hB
 by_cases hl : xa.length = xb.length
 ·rcases hA with rfl | ⟨b, off, rfl, hb, hA⟩
  ·have : xb = [] := List.eq_nil_of_length_eq_zero hl.symm
   subst this
   exact equalFunc_none w a a' c c'
  ·rcases hB with rfl | ⟨b', off', rfl, hb', hB⟩
   ·have : xa = [] := List.eq_nil_of_length_eq_zero hl
    subst this
    exact equalFunc_none w _ a' c c'
   ·exact equalFunc_row w b off c b' off' c' xa xb hl hsa.1.1 hA hB hb hb'
 ·exact equalFunc_len w a a' c c' xa xb hl hsa.1.1 hsb.1.1
end Go.Proofs.YtknkdbfgfcgkiaaGreatDoor

set_option linter.unusedVariables false
namespace Go.Proofs.YtknkdbfgfcgkiaaGreatDoor
open Go.RowKit Go.Maps Go.Deep

/-- what the order of two stamps is asked for: a contract of the specification's StampOrder -/
def OrdSaid (ord : List MarkV → List MarkV → Int) : Prop := ∀ (xa : List MarkV) (va : Value) (xb : List MarkV) (vb : Value) (w : World), SmallMarkS xa → SmallMarkS xb → MarkSRd w va xa → MarkSRd w vb xb →
 Calls Tryz.prog 27 #[va, vb] w fun e w' => e = .returned (.int .i64 (ord xa xb)) ∧ Below w.heap.size w w'
def aboveB (ord : List MarkV → List MarkV → Int) (xa xb : List MarkV) : Bool := srcB xa xb && (ord xa xb == 1)
set_option maxHeartbeats 3200000 in
theorem l14Above_any (ord : List MarkV → List MarkV → Int) (HOrd : OrdSaid ord) (z0 z1 : Int) (xa : List MarkV) (va : Value) (xb : List MarkV) (vb : Value) (w : World) (hsa : SmallMarkS xa) (hsb : SmallMarkS xb) (hA : MarkSRd w va xa) (hB : MarkSRd w vb xb) :
  Calls Tryz.prog 58 #[.agg #[.int .i64 z0, va], .agg #[.int .i64 z1, vb]] w fun e w' => e = .returned (.bool (aboveB ord xa xb)) ∧ Below w.heap.size w w' := by
 have HS := hide (fun W (bb : Below w.heap.size w W) => l14Sources_any xa va xb vb W hsa hsb (hA.up bb) (hB.up bb))
 have HO := hide (fun W (bb : Below w.heap.size w W) => HOrd xa va xb vb W hsa hsb (hA.up bb) (hB.up bb))
 obtain ⟨a, n, c, rfl⟩ := hA.form
 obtain ⟨a2, n2, c2, rfl⟩ := hB.form
 clear hA hB hsa hsb HOrd
 unfold aboveB
 generalize srcB xa xb = s at *
 generalize ord xa xb = o at *
 go_enter Tryz.func58, Tryz.ntmps58
 go_wp2_with fail
 refine (unhide HS _ (by go_grown)).mono ?_
 rintro e w1 ⟨rfl, b1⟩
 have B1 := hide (show Below w.heap.size w w1 from Below.trans (by go_grown) (b1.mono (by simp; omega)))
 have d0 : w1.cell? ⟨w.heap.size, 1, none⟩ = some (.slice a n c) := by
  rw [(icell b1).1 _ _ (by simp; omega), World.cell?_alloc_past _ _ _ (by simp), World.cell?_alloc_at _ _ _ _ (by simp)]
  rfl
 have d1 : w1.cell? ⟨w.heap.size + 1, 1, none⟩ = some (.slice a2 n2 c2) := by
  rw [(icell b1).1 _ _ (by simp), World.cell?_alloc_at _ _ _ _ (by simp)]
  rfl
 clear b1 HS
 cases s
 ·go_wp2_with fail
  go_ret
  exact ⟨rfl, unhide B1⟩
 ·go_wp2_with fail
  refine (unhide HO _ (unhide B1)).mono ?_
  rintro e w2 ⟨rfl, b2⟩
  have B2 := hide ((unhide B1).trans (b2.mono (unhide B1).size))
  clear b2
  go_wp2_with fail
  go_ret
  exact ⟨by simp, unhide B2⟩
/-- the first k are items of a window -/
def itemB (x : ItemV) : Bool := mstampB x.a1 && !decide (x.a1.length = 0)
def WinTo (ord : List MarkV → List MarkV → Int) (ns : List ItemV) (k : Nat) : Prop := ∀ i (h : i < ns.length), i < k → itemB ns[i] = true ∧ (0 < i → aboveB ord (ns[i - 1]'(by omega)).a1 ns[i].a1 = true)
instance (ord : List MarkV → List MarkV → Int) (ns : List ItemV) (k : Nat) : Decidable (WinTo ord ns k) := by unfold WinTo; infer_instance
def windowB (ord : List MarkV → List MarkV → Int) (ns : List ItemV) : Bool := decide (ns.length ≤ 4) && decide (WinTo ord ns ns.length)
theorem win_zero (ord : List MarkV → List MarkV → Int) (ns : List ItemV) : WinTo ord ns 0 := fun i h hi => absurd hi (Nat.not_lt_zero _)
theorem win_bad {ord : List MarkV → List MarkV → Int} {ns : List ItemV} {k : Nat} (hk : k < ns.length) (h : itemB ns[k] = false) : windowB ord ns = false := by
 have : ¬ WinTo ord ns ns.length := fun g => by
  have := (g k hk hk).1
  rw [h] at this
  cases this
 simp [windowB, this]
theorem win_down {ord : List MarkV → List MarkV → Int} {ns : List ItemV} {k : Nat} (hk : k + 1 < ns.length) (h : aboveB ord ns[k].a1 ns[k + 1].a1 = false) : windowB ord ns = false := by
 have : ¬ WinTo ord ns ns.length := fun g => by
  have := (g (k + 1) hk hk).2 (by omega)
  simp only [Nat.add_sub_cancel] at this
  rw [h] at this
  cases this
 simp [windowB, this]
theorem win_step0 {ord : List MarkV → List MarkV → Int} {ns : List ItemV} (hk : 0 < ns.length) (h : itemB ns[0] = true) : WinTo ord ns 1 := by
 intro i hi hik
 obtain rfl : i = 0 := by omega
 exact ⟨h, fun h => absurd h (Nat.lt_irrefl _)⟩
theorem win_step {ord : List MarkV → List MarkV → Int} {ns : List ItemV} {k : Nat} (hk : k + 1 < ns.length) (hg : WinTo ord ns (k + 1)) (h : itemB ns[k + 1] = true) (hl : aboveB ord ns[k].a1 ns[k + 1].a1 = true) : WinTo ord ns (k + 2) := by
 intro i hi hik
 by_cases e : i = k + 1
 ·subst e
  refine ⟨h, fun _ => ?_⟩
  simpa using hl
 ·exact hg i hi (by omega)
theorem win_good {ord : List MarkV → List MarkV → Int} {ns : List ItemV} (h4 : ns.length ≤ 4) (h : WinTo ord ns ns.length) : windowB ord ns = true := by simp [windowB, h4, h]
theorem win_long {ord : List MarkV → List MarkV → Int} {ns : List ItemV} (h4 : ¬ ns.length ≤ 4) : windowB ord ns = false := by simp [windowB, h4]
set_option maxHeartbeats 3200000 in
theorem specWindow_row (ord : List MarkV → List MarkV → Int) (HOrd : OrdSaid ord) (w : World) (b off cap : Nat) (ns : List ItemV) (hl : (ns.length : Int) ≤ 4) (hs : SmallItemS ns) (hc : ItemAt w b off ns) (hb : b < w.heap.size) :
  Calls Tryz.prog 56 #[.slice (some ⟨b, off, none⟩) ns.length cap] w fun e w' => e = .returned (.bool (windowB ord ns)) ∧ Below w.heap.size w w' := by
 have HS := hide hs.2
 have HC := hide hc
 have HO := hide HOrd
 have g4 : ¬ 4 < (ns.length : Int) := by omega
 clear hs hc HOrd
 go_enter Tryz.func56, Tryz.ntmps56
 go_wp2_with fail
 go_loopw [3] (fun i wr => ∃ k : Nat, k ≤ ns.length ∧ i = .int .i64 k ∧ Hid (WinTo ord ns k) ∧ Hid (Below w.heap.size w wr)) (fun i _ => ns.length - (intOf i).toNat)
 case atStart => exact ⟨0, Nat.zero_le _, rfl, win_zero ord ns, Below.refl _ _⟩
 case round =>
  obtain ⟨k, hk, rfl, HG, HBr⟩ := hrel
  by_cases hlt : k < ns.length
  ·have HCr := hide ((unhide HC).up hb (unhide HBr))
   have hbr := Nat.lt_of_lt_of_le hb (unhide HBr).size
   obtain ⟨c0, v, c1, hv⟩ := unhide HCr k hlt
   have hsm := hide (unhide HS _ (List.getElem_mem hlt)).2
   have HP := hide (fun W (bW : Below wr.heap.size wr W) => specStampOk_any ns[k].a1 v W (unhide hsm) (hv.up bW))
   cases hm : mstampB ns[k].a1
   ·rw [hm] at HP
    have HR := hide (win_bad (ord := ord) hlt (by simp [itemB, hm])).symm
    obtain ⟨va, vn, vc, rfl⟩ := hv.form
    clear hv hm
    generalize ns[k].a0 = z0 at *
    go_wp2_with fail
    refine (unhide HP _ (Below.refl _ _)).mono ?_
    rintro e w1 ⟨rfl, b1⟩
    have B1 := hide ((unhide HBr).trans (b1.mono (unhide HBr).size))
    clear b1
    go_wp2_with fail
    go_ret
    exact ⟨ret_bool (unhide HR), unhide B1⟩
   ·rw [hm] at HP
    obtain ⟨va, vc, rfl⟩ := hv.len
    by_cases h0 : ns[k].a1.length = 0
    ·have HR := hide (win_bad (ord := ord) hlt (by simp [itemB, h0])).symm
     have q0 : ((ns[k].a1.length : Int) == 0) = true := by simp [h0]
     clear hv hm h0
     generalize ns[k].a0 = z0 at *
     generalize ns[k].a1.length = n at *
     go_wp2_with fail
     refine (unhide HP _ (Below.refl _ _)).mono ?_
     rintro e w1 ⟨rfl, b1⟩
     have B1 := hide ((unhide HBr).trans (b1.mono (unhide HBr).size))
     have c1' := (b1.cell (by exact hbr)).trans c1
     clear b1 c0 c1
     go_wp2_with fail
     go_ret
     exact ⟨ret_bool (unhide HR), unhide B1⟩
    ·have q0 : ((ns[k].a1.length : Int) == 0) = false := by rw [beq_eq_false_iff_ne]; omega
     have hv' : itemB ns[k] = true := by simp [itemB, hm, h0]
     by_cases hk0 : k = 0
     ·have HG2 := hide (show WinTo ord ns (k + 1) by subst hk0; exact win_step0 hlt hv')
      have d0 : decide (0 < k) = false := by simp; omega
      clear hv hm h0 hv' hk0
      generalize ns[k].a0 = z0 at *
      generalize ns[k].a1.length = n at *
      go_wp2_with fail
      refine (unhide HP _ (Below.refl _ _)).mono ?_
      rintro e w1 ⟨rfl, b1⟩
      have B1 := hide ((unhide HBr).trans (b1.mono (unhide HBr).size))
      have c1' := (b1.cell (by exact hbr)).trans c1
      clear b1 c0 c1
      go_wp2_with fail
      refine wp_region_later (by kernel_rfl) (by kernel_rfl) ?_
      repeat (go_big_quiet_step (fail))
      refine wpQuiet_nil ?_
      rintro _ ⟨x, rfl⟩
      obtain ⟨w2, BB⟩ := x
      dsimp only
      have B2 := hide ((unhide B1).trans (BB.mono (unhide B1).size))
      clear BB
      go_wp2_with fail
      go_roundw
      case rel => exact ⟨k + 1, by omega, by go_num, HG2, B2⟩
      case measure => simp [intOf]; omega
     ·obtain ⟨j, hj⟩ : ∃ j, k = j + 1 := ⟨k - 1, by omega⟩
      have hjl : j < ns.length := by omega
      obtain ⟨e0, u, e1, hu⟩ := unhide HCr j hjl
      have hsj := hide (unhide HS _ (List.getElem_mem hjl)).2
      have HA := hide (fun W (bW : Below wr.heap.size wr W) => l14Above_any ord (unhide HO) ns[j].a0 ns[k].a0 ns[j].a1 u ns[k].a1 (.slice va ns[k].a1.length vc) W (unhide hsj) (unhide hsm) (hu.up bW) (hv.up bW))
      have HUP := hide (show aboveB ord ns[j].a1 ns[k].a1 = true → WinTo ord ns (k + 1) by subst hj; exact win_step hlt (unhide HG) hv')
      have HDN := hide (show aboveB ord ns[j].a1 ns[k].a1 = false → false = windowB ord ns by subst hj; exact fun h => (win_down hlt h).symm)
      obtain ⟨ua, un, uc, rfl⟩ := hu.form
      have hsub : (k : Int) - 1 = (j : Int) := by omega
      have hwr : IntKind.i64.wrap (j : Int) = (j : Int) := wrap_small _ (by omega) (by omega)
      have d0 : decide (0 < k) = true := by simp; omega
      have d1 : (j : Int) < (ns.length : Int) := by omega
      have d2 : (k : Int) < (ns.length : Int) := by omega
      clear hv hu hm h0 hv' hj hk0 hsj hsm
      generalize aboveB ord ns[j].a1 ns[k].a1 = ab at *
      generalize ns[j].a0 = y0 at *
      generalize ns[k].a0 = z0 at *
      generalize ns[k].a1.length = n at *
      go_wp2_with fail
      refine (unhide HP _ (Below.refl _ _)).mono ?_
      rintro e w1 ⟨rfl, b1⟩
      have B1 := hide ((unhide HBr).trans (b1.mono (unhide HBr).size))
      have c1' := (b1.cell (by exact hbr)).trans c1
      have c0' := (b1.cell (by exact hbr)).trans c0
      have e0' := (b1.cell (by exact hbr)).trans e0
      have e1' := (b1.cell (by exact hbr)).trans e1
      have HA2 := hide (fun W (bW : Below w1.heap.size w1 W) => unhide HA W (b1.trans (bW.mono b1.size)))
      clear b1 c0 c1 e0 e1 HA
      go_wp2_with fail
      have r0 : ∀ x : LaterW w1, x.to.cell? ⟨b, off + k * 2, none⟩ = some (.int .i64 z0) := fun x => x.cell c0'
      have r1 : ∀ x : LaterW w1, x.to.cell? ⟨b, off + k * 2 + 1, none⟩ = some (.slice va n vc) := fun x => x.cell c1'
      have r2 : ∀ x : LaterW w1, x.to.cell? ⟨b, off + j * 2, none⟩ = some (.int .i64 y0) := fun x => x.cell e0'
      have r3 : ∀ x : LaterW w1, x.to.cell? ⟨b, off + j * 2 + 1, none⟩ = some (.slice ua un uc) := fun x => x.cell e1'
      clear c0' c1' e0' e1'
      refine wp_region_later (by kernel_rfl) (by kernel_rfl) ?_
      repeat (go_big_quiet_step ((go_at_call 58; exact quiet_ret (unhide HA2 _ (LaterW.bel _)))))
      refine wpQuiet_nil ?_
      rintro _ ⟨x, rfl⟩
      obtain ⟨w2, BB⟩ := x
      dsimp only
      have B2 := hide ((unhide B1).trans (BB.mono (unhide B1).size))
      clear BB r0 r1 r2 r3
      cases ab
      ·have HR := hide (unhide HDN rfl)
       clear HDN HUP
       go_wp2_with fail
       go_ret
       exact ⟨ret_bool (unhide HR), unhide B2⟩
      ·have HG2 := hide (unhide HUP rfl)
       clear HDN HUP
       go_wp2_with fail
       go_roundw
       case rel => exact ⟨k + 1, by omega, by go_num, HG2, B2⟩
       case measure => simp [intOf]; omega
  ·have e : k = ns.length := by omega
   have HR := hide (show true = windowB ord ns from (win_good (by omega) (by rw [e] at HG; exact unhide HG)).symm)
   clear e
   go_wp2_with fail
   go_ret
   exact ⟨ret_bool (unhide HR), unhide HBr⟩
theorem specWindow_none (ord : List MarkV → List MarkV → Int) (w : World) (a : Option Addr) (cap : Nat) : Calls Tryz.prog 56 #[.slice a 0 cap] w fun e w' => e = .returned (.bool (windowB ord [])) ∧ Below w.heap.size w w' := by
 have HR := hide (show true = windowB ord [] from (win_good (by simp) (win_zero ord [])).symm)
 go_enter Tryz.func56, Tryz.ntmps56
 go_wp2_with fail
 refine wp_loop_rounds 1 ?_
 rw [rounds_succ]
 go_wp2_with fail
 go_ret
 exact ⟨ret_bool (unhide HR), Below.refl _ _⟩
theorem specWindow_long (ord : List MarkV → List MarkV → Int) (w : World) (a : Option Addr) (cap : Nat) (ns : List ItemV) (hl : ¬ (ns.length : Int) ≤ 4) : Calls Tryz.prog 56 #[.slice a ns.length cap] w fun e w' => e = .returned (.bool (windowB ord ns)) ∧ Below w.heap.size w w' := by
 have HR := hide (show false = windowB ord ns from (win_long (by omega)).symm)
 have g : 4 < (ns.length : Int) := by omega
 generalize ns.length = n at *
 go_enter Tryz.func56, Tryz.ntmps56
 go_wp2_with fail
 go_ret
 exact ⟨ret_bool (unhide HR), Below.refl _ _⟩
theorem specWindow_any (ord : List MarkV → List MarkV → Int) (HOrd : OrdSaid ord) (ns : List ItemV) (v : Value) (w : World) (hs : SmallItemS ns) (h : ItemSRd w v ns) : Calls Tryz.prog 56 #[v] w fun e w' => e = .returned (.bool (windowB ord ns)) ∧ Below w.heap.size w w' := by
 obtain ⟨a, c, rfl, h⟩ := h
 by_cases hl : (ns.length : Int) ≤ 4
 ·rcases h with rfl | ⟨b, off, rfl, hb, hc⟩
  ·exact specWindow_none ord w a c
  ·exact specWindow_row ord HOrd w b off c ns hl hs hc hb
 ·exact specWindow_long ord w a c ns hl
end Go.Proofs.YtknkdbfgfcgkiaaGreatDoor
