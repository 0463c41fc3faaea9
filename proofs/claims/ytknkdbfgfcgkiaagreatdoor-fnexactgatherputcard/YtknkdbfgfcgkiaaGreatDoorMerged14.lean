/-
  Texts in order, byte by byte.
-/
/-
  Stamps as values: which may be.
-/
/-
  Windows: have two stamps the same sources?
-/
/-
  StampOk of the specification.
-/
import Derived.Test.YtknkdbfgfcgkiaaGreatDoorMerged3
import Derived.Laws.Cover1
import Derived.Test.YtknkdbfgfcgkiaaGreatDoorMerged13
import Derived.Test.YtknkdbfgfcgkiaaGreatDoorMerged4
import Derived.BigQuiet
import Derived.Deep.QuietTactic
import Derived.Handy
set_option linter.unusedVariables false
namespace Go.Proofs.YtknkdbfgfcgkiaaGreatDoor
open Go.RowKit

def lessS (a b : ByteArray) : Bool := Op.bytesLess a.toList b.toList
theorem less_other (x y : List UInt8) : (Op.bytesLess x y || x == y) = !Op.bytesLess y x := by
 induction x generalizing y with
 | nil => cases y <;> simp [Op.bytesLess]
 | cons a x ih =>
  cases y with
  | nil => simp [Op.bytesLess]
  | cons b y =>
   simp only [Op.bytesLess, List.cons_beq_cons]
   have := ih y
   by_cases h1 : a < b
   ·have h2 : ¬ b < a := by simp only [UInt8.lt_iff_toNat_lt] at *; omega
    have h3 : (b == a) = false := by rw [beq_eq_false_iff_ne]; intro e; subst e; exact h2 h1
    simp [h1, h2, h3]
   ·by_cases h2 : b < a
    ·have h3 : (a == b) = false := by rw [beq_eq_false_iff_ne]; intro e; subst e; exact h1 h2
     simp [h1, h2, h3]
    ·have h3 : a = b := by
      rw [← UInt8.toNat_inj]
      simp only [UInt8.lt_iff_toNat_lt] at *
      omega
     subst h3
     simp [h1]
     exact this
theorem geq_leq (a b : ByteArray) : (Op.bytesLess a.toList b.toList || a.toList == b.toList) = !lessS b a := less_other _ _
theorem str_same (a b : ByteArray) : (a.toList == b.toList) = decide (a = b) := by
 rw [ByteArray.toList_eq, ByteArray.toList_eq, Bool.eq_iff_iff]
 simp
 constructor
 ·intro h; cases a; cases b; simp_all
 ·rintro rfl; rfl
end Go.Proofs.YtknkdbfgfcgkiaaGreatDoor

set_option linter.unusedVariables false
namespace Go.Proofs.YtknkdbfgfcgkiaaGreatDoor
open Go.RowKit Go.Maps Go.Deep

def markB (x : MarkV) : Bool := plainB x.a0 && decide (1 ≤ x.a1) && decide (x.a1 ≤ 1099511627776)
/-- the first k are versions, and each stands behind the one ahead of it -/
def MStampTo (ns : List MarkV) (k : Nat) : Prop := ∀ i (h : i < ns.length), i < k → markB ns[i] = true ∧ (0 < i → lessS (ns[i - 1]'(by omega)).a0 ns[i].a0 = true)
instance (ns : List MarkV) (k : Nat) : Decidable (MStampTo ns k) := by unfold MStampTo; infer_instance
def mstampB (ns : List MarkV) : Bool := decide (ns.length ≤ 12) && decide (MStampTo ns ns.length)
theorem mstamp_zero (ns : List MarkV) : MStampTo ns 0 := fun i h hi => absurd hi (Nat.not_lt_zero _)
theorem mstamp_bad {ns : List MarkV} {k : Nat} (hk : k < ns.length) (h : markB ns[k] = false) : mstampB ns = false := by
 have : ¬ MStampTo ns ns.length := fun g => by
  have := (g k hk hk).1
  rw [h] at this
  cases this
 simp [mstampB, this]
theorem mstamp_down {ns : List MarkV} {k : Nat} (hk : k + 1 < ns.length) (h : lessS ns[k].a0 ns[k + 1].a0 = false) : mstampB ns = false := by
 have : ¬ MStampTo ns ns.length := fun g => by
  have := (g (k + 1) hk hk).2 (by omega)
  simp only [Nat.add_sub_cancel] at this
  rw [h] at this
  cases this
 simp [mstampB, this]
theorem mstamp_step0 {ns : List MarkV} (hk : 0 < ns.length) (h : markB ns[0] = true) : MStampTo ns 1 := by
 intro i hi hik
 obtain rfl : i = 0 := by omega
 exact ⟨h, fun h => absurd h (Nat.lt_irrefl _)⟩
theorem mstamp_step {ns : List MarkV} {k : Nat} (hk : k + 1 < ns.length) (hg : MStampTo ns (k + 1)) (h : markB ns[k + 1] = true) (hl : lessS ns[k].a0 ns[k + 1].a0 = true) : MStampTo ns (k + 2) := by
 intro i hi hik
 by_cases e : i = k + 1
 ·subst e
  refine ⟨h, fun _ => ?_⟩
  simpa using hl
 ·exact hg i hi (by omega)
theorem mstamp_good {ns : List MarkV} (h12 : ns.length ≤ 12) (h : MStampTo ns ns.length) : mstampB ns = true := by simp [mstampB, h12, h]
theorem mstamp_long {ns : List MarkV} (h12 : ¬ ns.length ≤ 12) : mstampB ns = false := by simp [mstampB, h12]
/-- what a version's test comes to -/
theorem mark_cases (x : MarkV) : (markB x = true ∧ plainB x.a0 = true ∧ ¬ x.a1 < 1 ∧ ¬ 1099511627776 < x.a1) ∨ (markB x = false ∧ (plainB x.a0 = false ∨ (plainB x.a0 = true ∧ x.a1 < 1) ∨ (plainB x.a0 = true ∧ ¬ x.a1 < 1 ∧ 1099511627776 < x.a1))) := by
 unfold markB
 cases plainB x.a0
 ·right; simp
 ·by_cases h1 : x.a1 < 1
  ·right; simp; omega
  ·by_cases h2 : 1099511627776 < x.a1
   ·right; simp; omega
   ·left; simp; omega
end Go.Proofs.YtknkdbfgfcgkiaaGreatDoor

set_option linter.unusedVariables false
namespace Go.Proofs.YtknkdbfgfcgkiaaGreatDoor
open Go.RowKit Go.Maps Go.Deep

def srcB (xa xb : List MarkV) : Bool := decide (xa.map (·.a0) = xb.map (·.a0))
theorem src_len {xa xb : List MarkV} (h : xa.length ≠ xb.length) : srcB xa xb = false := by
 unfold srcB
 rw [decide_eq_false_iff_not]
 intro e
 have := congrArg List.length e
 simp at this
 exact h this
theorem src_off {xa xb : List MarkV} {k : Nat} (ha : k < xa.length) (hb : k < xb.length) (h : xa[k].a0 ≠ xb[k].a0) : srcB xa xb = false := by
 unfold srcB
 rw [decide_eq_false_iff_not]
 intro e
 have := congrArg (fun l => l[k]?) e
 simp [ha, hb] at this
 exact h this
theorem src_on {xa xb : List MarkV} (hl : xa.length = xb.length) (h : ∀ i (ha : i < xa.length) (hb : i < xb.length), xa[i].a0 = xb[i].a0) : srcB xa xb = true := by
 unfold srcB
 rw [decide_eq_true_eq]
 apply List.ext_getElem
 ·simpa using hl
 ·intro i h1 h2
  simp at h1 h2
  simpa using h i h1 h2
set_option maxHeartbeats 3200000 in
theorem l14Sources_row (w : World) (b off c b' off' c' : Nat) (xa xb : List MarkV) (hl : xa.length = xb.length) (hs : xa.length ≤ 1048576) (hA : MarkAt w b off xa) (hB : MarkAt w b' off' xb) (hb : b < w.heap.size) (hb' : b' < w.heap.size) :
  Calls Tryz.prog 82 #[.slice (some ⟨b, off, none⟩) xa.length c, .slice (some ⟨b', off', none⟩) xb.length c'] w fun e w' => e = .returned (.bool (srcB xa xb)) ∧ Below w.heap.size w w' := by
 have HA := hide hA
 have HB := hide hB
 have HL := hide hl
 clear hA hB
 rw [← hl]
 clear hl
 go_enter Tryz.func82, Tryz.ntmps82
 go_wp2_with fail
 go_loopw [5] (fun i wr => ∃ k : Nat, k ≤ xa.length ∧ i = .int .i64 k ∧ Hid (∀ j (h : j < xa.length) (h' : j < xb.length), j < k → xa[j].a0 = xb[j].a0) ∧ Hid (Below w.heap.size w wr)) (fun i _ => xa.length - (intOf i).toNat)
 case atStart => exact ⟨0, Nat.zero_le _, rfl, hide (fun j _ _ hj => absurd hj (Nat.not_lt_zero _)), Below.refl _ _⟩
 case round =>
  obtain ⟨k, hk, rfl, HN, HBr⟩ := hrel
  by_cases hlt : k < xa.length
  ·have hlt' : k < xb.length := by have := unhide HL; omega
   have c0 := ((unhide HA).below (unhide HBr) hb k hlt).1
   have d0 := ((unhide HB).below (unhide HBr) hb' k hlt').1
   by_cases he : xa[k].a0 = xb[k].a0
   ·have HN2 := hide (show ∀ j (h : j < xa.length) (h' : j < xb.length), j < k + 1 → xa[j].a0 = xb[j].a0 from fun j h h' hj => by
     by_cases e : j = k
     ·subst e; exact he
     ·exact unhide HN j h h' (by omega))
    rw [← he] at d0
    clear he
    generalize xa[k].a0 = nm at *
    go_wp2_with fail
    go_quiet (fail)
    go_wp2_with fail
    go_roundw
    case rel => exact ⟨k + 1, by omega, by go_num, HN2, hide ((unhide HBr).trans ((belowN _ _).mono (unhide HBr).size))⟩
    case measure => simp [intOf]; omega
   ·have HR := hide (src_off hlt hlt' he).symm
    have qe : (xa[k].a0.toList == xb[k].a0.toList) = false := by rw [str_same]; simpa using he
    clear he
    generalize xa[k].a0 = nm at *
    generalize xb[k].a0 = nb at *
    go_wp2_with fail
    go_quiet (fail)
    go_wp2_with fail
    go_ret
    exact ⟨ret_bool (unhide HR), (unhide HBr).trans ((belowN _ _).mono (unhide HBr).size)⟩
  ·have HR := hide (src_on (unhide HL) (fun i h h' => unhide HN i h h' (by omega))).symm
   go_wp2_with fail
   go_ret
   exact ⟨ret_bool (unhide HR), unhide HBr⟩
theorem l14Sources_len (w : World) (a a' : Option Addr) (c c' : Nat) (xa xb : List MarkV) (hl : xa.length ≠ xb.length) (h1 : xa.length ≤ 1048576) (h2 : xb.length ≤ 1048576) :
  Calls Tryz.prog 82 #[.slice a xa.length c, .slice a' xb.length c'] w fun e w' => e = .returned (.bool (srcB xa xb)) ∧ Below w.heap.size w w' := by
 have HR := hide (src_len hl).symm
 have e : ((xa.length : Int) == (xb.length : Int)) = false := by rw [beq_eq_false_iff_ne]; omega
 generalize xa.length = n at *
 generalize xb.length = m at *
 go_enter Tryz.func82, Tryz.ntmps82
 go_wp2_with fail
 go_ret
 exact ⟨ret_bool (unhide HR), Below.refl _ _⟩
theorem l14Sources_none (w : World) (a a' : Option Addr) (c c' : Nat) :
  Calls Tryz.prog 82 #[.slice a 0 c, .slice a' 0 c'] w fun e w' => e = .returned (.bool true) ∧ Below w.heap.size w w' := by
 go_enter Tryz.func82, Tryz.ntmps82
 go_wp2_with fail
 refine wp_loop_rounds 1 ?_
 rw [rounds_succ]
 go_wp2_with fail
 go_ret
 exact ⟨rfl, Below.refl _ _⟩
theorem l14Sources_any (xa : List MarkV) (va : Value) (xb : List MarkV) (vb : Value) (w : World) (hsa : SmallMarkS xa) (hsb : SmallMarkS xb) (hA : MarkSRd w va xa) (hB : MarkSRd w vb xb) :
  Calls Tryz.prog 82 #[va, vb] w fun e w' => e = .returned (.bool (srcB xa xb)) ∧ Below w.heap.size w w' := by
 obtain ⟨a, c, rfl, hA⟩ := hA
 obtain ⟨a', c', rfl, hB⟩ := hB
 by_cases hl : xa.length = xb.length
 ·rcases hA with rfl | ⟨b, off, rfl, hb, hA⟩
  ·have : xb = [] := List.eq_nil_of_length_eq_zero hl.symm
   subst this
   exact l14Sources_none w a a' c c'
  ·rcases hB with rfl | ⟨b', off', rfl, hb', hB⟩
   ·have : xa = [] := List.eq_nil_of_length_eq_zero hl
    subst this
    exact l14Sources_none w _ a' c c'
   ·exact l14Sources_row w b off c b' off' c' xa xb hl hsa.1.1 hA hB hb hb'
 ·exact l14Sources_len w a a' c c' xa xb hl hsa.1.1 hsb.1.1
end Go.Proofs.YtknkdbfgfcgkiaaGreatDoor

set_option linter.unusedVariables false
namespace Go.Proofs.YtknkdbfgfcgkiaaGreatDoor
open Go.RowKit Go.Maps Go.Deep

set_option maxHeartbeats 3200000 in
theorem specStamp_row (w : World) (b off cap : Nat) (ns : List MarkV) (hl : (ns.length : Int) ≤ 12) (hc : MarkAt w b off ns) (hb : b < w.heap.size) (hs : MarkOk ns) :
  Calls Tryz.prog 55 #[.slice (some ⟨b, off, none⟩) ns.length cap] w fun e w' => e = .returned (.bool (mstampB ns)) ∧ Below w.heap.size w w' := by
 have HS := hide hs
 have HC := hide hc
 have g12 : ¬ 12 < (ns.length : Int) := by omega
 clear hs hc
 go_enter Tryz.func55, Tryz.ntmps55
 go_wp2_with fail
 go_loopw [3] (fun i wr => ∃ k : Nat, k ≤ ns.length ∧ i = .int .i64 k ∧ Hid (MStampTo ns k) ∧ Hid (Below w.heap.size w wr)) (fun i _ => ns.length - (intOf i).toNat)
 case atStart => exact ⟨0, Nat.zero_le _, rfl, mstamp_zero ns, Below.refl _ _⟩
 case round =>
  obtain ⟨k, hk, rfl, HG, HBr⟩ := hrel
  by_cases hlt : k < ns.length
  ·obtain ⟨c0, c1⟩ := unhide HC k hlt
   rw [← (unhide HBr).cell (by exact hb)] at c0 c1
   have hname := hide (unhide HS _ (List.getElem_mem hlt)).1
   have HP := hide (fun W => specPlain13_any ns[k].a0 W (unhide hname))
   rcases mark_cases ns[k] with ⟨hv, p1, p2, p3⟩ | ⟨hv, hcase⟩
   ·rw [p1] at HP
    by_cases hk0 : k = 0
    ·have HG2 := hide (show MStampTo ns (k + 1) by subst hk0; exact mstamp_step0 hlt hv)
     have d0 : decide (0 < k) = false := by simp; omega
     clear hv hk0
     generalize ns[k].a0 = nm at *
     generalize ns[k].a1 = vl at *
     go_wp2_with fail
     refine (unhide HP _).mono ?_
     rintro e w1 ⟨rfl, hw⟩
     rw [hw]
     clear hw
     go_wp2_with fail
     go_quiet (fail)
     go_wp2_with fail
     go_roundw
     case rel => exact ⟨k + 1, by omega, by go_num, HG2, hide ((unhide HBr).trans ((belowN _ _).mono (unhide HBr).size))⟩
     case measure => simp [intOf]; omega
    ·obtain ⟨j, hj⟩ : ∃ j, k = j + 1 := ⟨k - 1, by omega⟩
     have hjl : j < ns.length := by omega
     obtain ⟨e0, e1⟩ := unhide HC j hjl
     rw [← (unhide HBr).cell (by exact hb)] at e0 e1
     have HUP := hide (show lessS ns[j].a0 ns[k].a0 = true → MStampTo ns (k + 1) by subst hj; exact mstamp_step hlt (unhide HG) hv)
     have HDN := hide (show lessS ns[j].a0 ns[k].a0 = false → false = mstampB ns by subst hj; exact fun h => (mstamp_down hlt h).symm)
     unfold lessS at HUP HDN
     have hsub : (k : Int) - 1 = (j : Int) := by omega
     have hwr : IntKind.i64.wrap (j : Int) = (j : Int) := wrap_small _ (by omega) (by omega)
     have d0 : decide (0 < k) = true := by simp; omega
     have d1 : (j : Int) < (ns.length : Int) := by omega
     have d2 : (k : Int) < (ns.length : Int) := by omega
     clear hv hj hk0
     generalize ns[k].a0 = nm at *
     generalize ns[k].a1 = vl at *
     generalize ns[j].a0 = nj at *
     generalize ns[j].a1 = vj at *
     go_wp2_with fail
     refine (unhide HP _).mono ?_
     rintro e w1 ⟨rfl, hw⟩
     rw [hw]
     clear hw
     go_wp2_with fail
     go_quiet (fail)
     cases hless : Op.bytesLess nj.toList nm.toList
     ·go_wp2_with fail
      go_ret
      exact ⟨ret_bool (unhide HDN hless), (unhide HBr).trans ((belowN _ _).mono (unhide HBr).size)⟩
     ·have HG2 := hide (unhide HUP hless)
      go_wp2_with fail
      go_roundw
      case rel => exact ⟨k + 1, by omega, by go_num, HG2, hide ((unhide HBr).trans ((belowN _ _).mono (unhide HBr).size))⟩
      case measure => simp [intOf]; omega
   ·have HR := hide (mstamp_bad hlt hv).symm
    clear hv
    generalize ns[k].a0 = nm at *
    generalize ns[k].a1 = vl at *
    rcases hcase with p1 | ⟨p1, p2⟩ | ⟨p1, p2, p3⟩
    all_goals
     rw [p1] at HP
     go_wp2_with fail
     refine (unhide HP _).mono ?_
     rintro e w1 ⟨rfl, hw⟩
     rw [hw]
     clear hw
     go_wp2_with fail
     go_ret
     exact ⟨ret_bool (unhide HR), unhide HBr⟩
  ·have e : k = ns.length := by omega
   have HR := hide (show true = mstampB ns from (mstamp_good (by omega) (by rw [e] at HG; exact unhide HG)).symm)
   clear e
   go_wp2_with fail
   go_ret
   exact ⟨ret_bool (unhide HR), unhide HBr⟩
theorem specStamp_none (w : World) (a : Option Addr) (cap : Nat) : Calls Tryz.prog 55 #[.slice a 0 cap] w fun e w' => e = .returned (.bool (mstampB [])) ∧ Below w.heap.size w w' := by
 go_enter Tryz.func55, Tryz.ntmps55
 go_wp2_with fail
 refine wp_loop_rounds 1 ?_
 rw [rounds_succ]
 go_wp2_with fail
 go_ret
 exact ⟨rfl, Below.refl _ _⟩
theorem specStamp_long (w : World) (a : Option Addr) (cap : Nat) (ns : List MarkV) (hl : ¬ (ns.length : Int) ≤ 12) : Calls Tryz.prog 55 #[.slice a ns.length cap] w fun e w' => e = .returned (.bool (mstampB ns)) ∧ Below w.heap.size w w' := by
 have HR := hide (show false = mstampB ns from (mstamp_long (by omega)).symm)
 have g : 12 < (ns.length : Int) := by omega
 generalize ns.length = n at *
 go_enter Tryz.func55, Tryz.ntmps55
 go_wp2_with fail
 go_ret
 exact ⟨ret_bool (unhide HR), Below.refl _ _⟩
theorem specStamp_any (w : World) (v : Value) (ns : List MarkV) (hs : MarkOk ns) (h : MarkSRd w v ns) : Calls Tryz.prog 55 #[v] w fun e w' => e = .returned (.bool (mstampB ns)) ∧ Below w.heap.size w w' := by
 obtain ⟨a, c, rfl, h⟩ := h
 by_cases hl : (ns.length : Int) ≤ 12
 ·rcases h with rfl | ⟨b, off, rfl, hb, hc⟩
  ·exact specStamp_none w a c
  ·exact specStamp_row w b off c ns hl hc hb hs
 ·exact specStamp_long w a c ns hl
end Go.Proofs.YtknkdbfgfcgkiaaGreatDoor
