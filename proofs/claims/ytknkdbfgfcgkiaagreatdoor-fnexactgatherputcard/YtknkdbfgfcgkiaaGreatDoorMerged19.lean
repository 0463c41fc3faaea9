/-
  Windows: the program's window takes an item, or not.
-/
/-
  Windows: the program takes item by item.
-/
/-
  WindowOk of the program.
-/
/-
  WindowLast of the program.
-/
/-
  WindowLast of the specification.
-/
/-
  Lists of ints in memory, and the law's own helpers over them: how they are copied, compared, and how one that comes in is opened. (Made out of StrRows.)
-/
import Derived.Test.YtknkdbfgfcgkiaaGreatDoorMerged13
import Derived.Test.YtknkdbfgfcgkiaaGreatDoorMerged18
import Derived.Test.YtknkdbfgfcgkiaaGreatDoorMerged10
import Derived.Test.YtknkdbfgfcgkiaaGreatDoorMerged11
import Derived.Test.YtknkdbfgfcgkiaaGreatDoorMerged3
import Derived.Test.YtknkdbfgfcgkiaaGreatDoorMerged7
import Derived.Deep.RegionHeld3
import Derived.Deep.RegionWith
import Derived.Deep.Slices
import Derived.ProofKit
import Derived.OpenShut
set_option linter.unusedVariables false
namespace Go.Proofs.YtknkdbfgfcgkiaaGreatDoor
open Go.RowKit Go.Maps Go.Deep

/-- what lies in a ring, as items -/
def RawIs (w : World) (xs : List RawI) (ns : List ItemV) : Prop := xs.length = ns.length ∧ ∀ i (h : i < xs.length) (h' : i < ns.length), xs[i].z = ns[i].a0 ∧ MarkSRd w xs[i].v ns[i].a1
def lastM (ns : List ItemV) : List MarkV := (ns.getLast?.map (·.a1)).getD []
theorem markSRd_none (w : World) : MarkSRd w (.slice none 0 0) [] := ⟨none, 0, rfl, .inl rfl⟩
theorem RawIs.last {w : World} {xs : List RawI} {ns : List ItemV} (h : RawIs w xs ns) : MarkSRd w (lastOr xs).v (lastM ns) := by
 unfold lastOr lastM
 rw [List.getLast?_eq_getElem?, List.getLast?_eq_getElem?]
 by_cases hl : xs.length = 0
 ·have hn : ns.length = 0 := by rw [← h.1]; exact hl
  have e1 : xs = [] := List.eq_nil_of_length_eq_zero hl
  have e2 : ns = [] := List.eq_nil_of_length_eq_zero hn
  subst e1 e2
  exact markSRd_none w
 ·have h1 : xs.length - 1 < xs.length := by omega
  have h2 : ns.length - 1 < ns.length := by have := h.1; omega
  rw [List.getElem?_eq_getElem h1, List.getElem?_eq_getElem h2]
  have e : ns.length - 1 = xs.length - 1 := by rw [h.1]
  have := (h.2 (xs.length - 1) h1 (by rw [← h.1]; exact h1)).2
  simp only [Option.map_some, Option.getD_some, e]
  exact this
theorem RawIs.empty {w : World} {xs : List RawI} {ns : List ItemV} (h : RawIs w xs ns) : decide (xs ≠ []) = decide (ns ≠ []) := by
 have := h.1
 cases xs <;> cases ns <;> simp at this ⊢
theorem small_last {ns : List ItemV} (h : ∀ x ∈ ns, SmallItem x) : SmallMarkS (lastM ns) := by
 unfold lastM
 cases hl : ns.getLast? with
 | none => exact ⟨⟨by simp, fun _ h => by cases h⟩, fun _ h => by cases h⟩
 | some x => exact (h x (List.mem_of_getLast? hl)).2
/-- what becomes of an item -/
def takeC (ns : List ItemV) (nv : ItemV) : Int := if itemB nv = false then 1 else if ns ≠ [] ∧ aboveB orderOut (lastM ns) nv.a1 = false then 2 else 0
def takeSt (ns : List ItemV) (nv : ItemV) (st : Nat) (xs : List RawI) : Nat := if takeC ns nv = 0 then putSt st xs else st
def takeL (ns : List ItemV) (nv : ItemV) (xs : List RawI) (x : RawI) : List RawI := if takeC ns nv = 0 then putL xs x else xs
theorem take_ne {ns : List ItemV} {nv : ItemV} {c : Int} (st : Nat) (xs : List RawI) (x : RawI) (h : takeC ns nv = c) (hc : c ≠ 0) : takeC ns nv = c ∧ takeSt ns nv st xs = st ∧ takeL ns nv xs x = xs := by
 refine ⟨h, ?_, ?_⟩
 ·unfold takeSt; rw [h, if_neg hc]
 ·unfold takeL; rw [h, if_neg hc]
theorem take_eq {ns : List ItemV} {nv : ItemV} (st : Nat) (xs : List RawI) (x : RawI) (h : takeC ns nv = 0) : takeC ns nv = 0 ∧ takeSt ns nv st xs = putSt st xs ∧ takeL ns nv xs x = putL xs x := by
 refine ⟨h, ?_, ?_⟩
 ·unfold takeSt; rw [h, if_pos rfl]
 ·unfold takeL; rw [h, if_pos rfl]

set_option maxRecDepth 100000 in
set_option maxHeartbeats 4000000 in
theorem take_any (w0 : World) (g st : Nat) (xs : List RawI) (ns : List ItemV) (x : RawI) (nv : ItemV) (w : World) (hb : Below w0.heap.size w0 w) (hg : w0.heap.size ≤ g) (hr : RingF w g st xs) (hx : RawIs w0 xs ns) (hs : ∀ y ∈ ns, SmallItem y) (hm : MarkSRd w0 x.v nv.a1) (hsn : SmallMarkS nv.a1) :
  Calls Tryz.prog 90 #[.pointer (some ⟨g, 0, none⟩), .agg #[.int .i64 x.z, .slice x.a x.n x.c]] w fun e w' => e = .returned (.int .i64 (takeC ns nv)) ∧ Hid (RingF w' g (takeSt ns nv st xs) (takeL ns nv xs x)) ∧ Hid (Turn [g] w w') := by
 have hgl := hr.1.lt
 have HR := hide hr
 have hn : x.n = nv.a1.length := by
  obtain ⟨a, c, e, _⟩ := hm
  unfold RawI.v at e
  simp only [Value.slice.injEq] at e
  exact e.2.1
 have HM := hide (fun W (b : Below w0.heap.size w0 W) => hm.up b)
 have HL := hide (fun W (b : Below w0.heap.size w0 W) => hx.last.up b)
 have HSL := hide (small_last hs)
 have HSN := hide hsn
 have HB := hide hb
 have hne := hx.empty
 have bI := boxI_new w x
 have bb := (Below.refl w.heap.size w).alloc (Nat.le_refl _) (.cells #[.int .i64 x.z, .slice x.a x.n x.c] 44)
 have hz : w.heap.size < (w.alloc (.cells #[.int .i64 x.z, .slice x.a x.n x.c] 44)).heap.size := by simp
 clear hr hx hs hm hsn hb
 by_cases h0 : nv.a1.length = 0
 ·have HT := hide (take_ne (ns := ns) (nv := nv) (c := 1) st xs x (by unfold takeC; rw [if_pos (by simp [itemB, h0])]) (by omega))
  have q0 : ((x.n : Int) == 0) = true := by rw [hn, h0]; rfl
  obtain ⟨y0, y1⟩ := boxI_cells bI
  clear hn h0 hne
  go_enter Tryz.func90, Tryz.ntmps90
  go_wp2_with fail
  go_ret
  rw [(unhide HT).1, (unhide HT).2.1, (unhide HT).2.2]
  exact ⟨rfl, hide ((unhide HR).up bb), hide (Turn.of_below bb)⟩
 ·have q0 : ((x.n : Int) == 0) = false := by rw [hn, beq_eq_false_iff_ne]; omega
  have HOK := hide (fun W (b : Below w0.heap.size w0 W) => implStampOk_any nv.a1 x.v W (unhide HSN) (unhide HM W b))
  unfold RawI.v at HOK
  obtain ⟨y0, y1⟩ := boxI_cells bI
  cases hmb : mstampB nv.a1
  ·have HT := hide (take_ne (ns := ns) (nv := nv) (c := 1) st xs x (by unfold takeC; rw [if_pos (by simp [itemB, hmb])]) (by omega))
   rw [hmb] at HOK
   clear hn h0 hmb hne
   go_enter Tryz.func90, Tryz.ntmps90
   go_wp2_with fail
   refine (unhide HOK _ ((unhide HB).trans (bb.mono (unhide HB).size))).mono ?_
   rintro e w1 ⟨rfl, b1⟩
   have B1 := hide (bb.trans (b1.mono (by simp)))
   clear b1
   go_wp2_with fail
   go_ret
   rw [(unhide HT).1, (unhide HT).2.1, (unhide HT).2.2]
   exact ⟨rfl, hide ((unhide HR).up (unhide B1)), hide (Turn.of_below (unhide B1))⟩
  ·rw [hmb] at HOK
   have hit := hide (show itemB nv = true by simp [itemB, hmb, h0])
   have HNE := hide hne
   clear hn h0 hmb hne
   go_enter Tryz.func90, Tryz.ntmps90
   go_wp2_with fail
   refine (unhide HOK _ ((unhide HB).trans (bb.mono (unhide HB).size))).mono ?_
   rintro e w1 ⟨rfl, b1⟩
   have B1 := hide (bb.trans (b1.mono (by simp)))
   have bI1 := boxI_up bI b1
   clear b1 bI bb y0 y1 hz
   have R1 := hide ((unhide HR).up (unhide B1))
   have HLA := hide (last_any g st xs w1 (unhide R1).1)
   have HLS := hide (fun W (b : Below w0.heap.size w0 W) => comesBehind_any (lastM ns) (lastOr xs).v nv.a1 x.v W (unhide HSL) (unhide HSN) (unhide HL W b) (unhide HM W b))
   unfold RawI.v at HLS
   rw [unhide HNE] at HLA
   generalize lastOr xs = lr at *
   by_cases hns : ns = []
   ·have HT := hide (take_eq (ns := ns) (nv := nv) st xs x (by unfold takeC; rw [if_neg (by rw [unhide hit]; simp), if_neg (by simp [hns])]))
    rw [show decide (ns ≠ []) = false by simp [hns]] at HLA
    clear hns hit HNE HLS
    go_wp2_with fail
    refine (unhide HLA).mono ?_
    rintro e w2 ⟨rfl, b2⟩
    have B2 := hide ((unhide B1).trans (b2.mono (unhide B1).size))
    have bI2 := boxI_up bI1 b2
    have R2 := hide ((unhide R1).up b2)
    clear b2 bI1 R1 HLA HR HOK
    go_wp2_with fail
    have b3 := (Below.refl w2.heap.size w2).alloc (Nat.le_refl _) (.cells #[.int .i64 lr.z, .slice lr.a lr.n lr.c] 44)
    have B4 := hide ((unhide B2).trans (b3.mono (unhide B2).size))
    have R4 := hide ((unhide R2).up b3)
    have bI4 := boxI_up bI2 b3
    clear b3 B2 R2 bI2
    generalize w2.alloc (.cells #[.int .i64 lr.z, .slice lr.a lr.n lr.c] 44) = W4 at *
    have HPUT := hide (put_any g st xs x W4.drew ((unhide R4).up (Below.refl _ _).drew))
    obtain ⟨y0, y1⟩ := boxI_cells bI4
    have hBl := boxI_lt bI4
    have hBg : w.heap.size ≠ g := by omega
    have K0 := hide (show W4.drew.cell? ⟨w.heap.size, 0, none⟩ = some (.int .i64 x.z) ∧ W4.drew.cell? ⟨w.heap.size, 1, none⟩ = some (.slice x.a x.n x.c) from ⟨y0, y1⟩)
    have K1 := hide (show ∀ X : World, Hid (Turn [g] W4.drew X) → X.cell? ⟨w.heap.size, 0, none⟩ = some (.int .i64 x.z) ∧ X.cell? ⟨w.heap.size, 1, none⟩ = some (.slice x.a x.n x.c) from fun X t => ⟨((unhide t).cell hBl (by simpa using hBg)).trans y0, ((unhide t).cell hBl (by simpa using hBg)).trans y1⟩)
    go_region_held3 (fun (X : World) => X.cell? ⟨w.heap.size, 0, none⟩ = some (.int .i64 x.z) ∧ X.cell? ⟨w.heap.size, 1, none⟩ = some (.slice x.a x.n x.c))
     ((first | exact unhide K0 | exact unhide K1 _ HTG))
     ((go_at_call 108; refine (unhide HPUT).mono ?_; rintro e w9 ⟨⟨vv, rfl⟩, HRG, HTG⟩))
    go_wp2_with fail
    go_ret
    rw [(unhide HT).1, (unhide HT).2.1, (unhide HT).2.2]
    exact ⟨rfl, HRG, hide (((Turn.of_below (unhide B4)).trans (Turn.of_below (Below.refl _ _).drew)).trans (unhide HTG))⟩
   ·rw [show decide (ns ≠ []) = true by simp [hns]] at HLA
    have HA0 := hide (show aboveB orderOut (lastM ns) nv.a1 = true → takeC ns nv = 0 from fun h => by unfold takeC; rw [if_neg (by rw [unhide hit]; simp), if_neg (by simp [h])])
    have HA2 := hide (show aboveB orderOut (lastM ns) nv.a1 = false → takeC ns nv = 2 from fun h => by unfold takeC; rw [if_neg (by rw [unhide hit]; simp), if_pos ⟨hns, h⟩])
    clear hns hit HNE
    generalize aboveB orderOut (lastM ns) nv.a1 = ab at *
    go_wp2_with fail
    refine (unhide HLA).mono ?_
    rintro e w2 ⟨rfl, b2⟩
    have B2 := hide ((unhide B1).trans (b2.mono (unhide B1).size))
    have bI2 := boxI_up bI1 b2
    have R2 := hide ((unhide R1).up b2)
    clear b2 bI1 R1 HLA HR HOK
    have b3 := (Below.refl w2.heap.size w2).alloc (Nat.le_refl _) (.cells #[.int .i64 lr.z, .slice lr.a lr.n lr.c] 44)
    have B3 := hide ((unhide B2).trans (b3.mono (unhide B2).size))
    have R3 := hide ((unhide R2).up b3)
    have bI3 := boxI_up bI2 b3
    have bL3 := boxI_cells (boxI_new w2 lr)
    obtain ⟨y0, y1⟩ := boxI_cells bI3
    obtain ⟨l0, l1⟩ := bL3
    clear b3 B2 R2 bI2
    go_wp2_with fail
    refine (unhide HLS _ ((unhide HB).trans ((unhide B3).mono (unhide HB).size))).mono ?_
    rintro e W4 ⟨rfl, b4⟩
    have B4 := hide ((unhide B3).trans (b4.mono (unhide B3).size))
    have R4 := hide ((unhide R3).up b4)
    have bI4 := boxI_up bI3 b4
    clear b4 B3 R3 bI3 y0 y1 l0 l1
    cases ab
    ·have HT := hide (take_ne (ns := ns) (nv := nv) (c := 2) st xs x (unhide HA2 rfl) (by omega))
     clear HA0 HA2
     go_wp2_with fail
     go_ret
     rw [(unhide HT).1, (unhide HT).2.1, (unhide HT).2.2]
     exact ⟨rfl, R4, hide (Turn.of_below (unhide B4))⟩
    ·have HT := hide (take_eq (ns := ns) (nv := nv) st xs x (unhide HA0 rfl))
     clear HA0 HA2
     go_wp2_with fail
     have HPUT := hide (put_any g st xs x W4.drew ((unhide R4).up (Below.refl _ _).drew))
     obtain ⟨y0, y1⟩ := boxI_cells bI4
     have hBl := boxI_lt bI4
     have hBg : w.heap.size ≠ g := by omega
     have K0 := hide (show W4.drew.cell? ⟨w.heap.size, 0, none⟩ = some (.int .i64 x.z) ∧ W4.drew.cell? ⟨w.heap.size, 1, none⟩ = some (.slice x.a x.n x.c) from ⟨y0, y1⟩)
     have K1 := hide (show ∀ X : World, Hid (Turn [g] W4.drew X) → X.cell? ⟨w.heap.size, 0, none⟩ = some (.int .i64 x.z) ∧ X.cell? ⟨w.heap.size, 1, none⟩ = some (.slice x.a x.n x.c) from fun X t => ⟨((unhide t).cell hBl (by simpa using hBg)).trans y0, ((unhide t).cell hBl (by simpa using hBg)).trans y1⟩)
     go_region_held3 (fun (X : World) => X.cell? ⟨w.heap.size, 0, none⟩ = some (.int .i64 x.z) ∧ X.cell? ⟨w.heap.size, 1, none⟩ = some (.slice x.a x.n x.c))
      ((first | exact unhide K0 | exact unhide K1 _ HTG))
      ((go_at_call 108; refine (unhide HPUT).mono ?_; rintro e w9 ⟨⟨vv, rfl⟩, HRG, HTG⟩))
     go_wp2_with fail
     go_ret
     rw [(unhide HT).1, (unhide HT).2.1, (unhide HT).2.2]
     exact ⟨rfl, HRG, hide (((Turn.of_below (unhide B4)).trans (Turn.of_below (Below.refl _ _).drew)).trans (unhide HTG))⟩
end Go.Proofs.YtknkdbfgfcgkiaaGreatDoor

set_option linter.unusedVariables false
namespace Go.Proofs.YtknkdbfgfcgkiaaGreatDoor
open Go.RowKit Go.Maps Go.Deep

theorem lastM_take {ns : List ItemV} {k : Nat} (h : k + 1 ≤ ns.length) : lastM (ns.take (k + 1)) = (ns[k]'(by omega)).a1 := by
 unfold lastM
 rw [List.getLast?_eq_getElem?]
 have hl : (ns.take (k + 1)).length = k + 1 := by simp; omega
 rw [hl, Nat.add_sub_cancel, List.getElem?_take, if_pos (by omega), List.getElem?_eq_getElem (by omega)]
 rfl
/-- each is taken, or it is no window -/
theorem take_step {ns : List ItemV} {k : Nat} (hk : k < ns.length) (hw : WinTo orderOut ns k) :
  (takeC (ns.take k) ns[k] = 0 → WinTo orderOut ns (k + 1)) ∧ (takeC (ns.take k) ns[k] ≠ 0 → windowB orderOut ns = false) := by
 cases hi : itemB ns[k]
 ·refine ⟨fun h => ?_, fun _ => win_bad hk hi⟩
  unfold takeC at h
  rw [if_pos hi] at h
  omega
 ·cases k with
  | zero =>
   refine ⟨fun _ => win_step0 hk hi, fun h => ?_⟩
   exfalso
   apply h
   unfold takeC
   rw [if_neg (by rw [hi]; simp), if_neg (by simp)]
  | succ j =>
   have hl : lastM (ns.take (j + 1)) = (ns[j]'(by omega)).a1 := lastM_take (by omega)
   have hne : ns.take (j + 1) ≠ [] := by
    intro e
    have := congrArg List.length e
    simp at this
    subst this
    simp at hk
   cases ha : aboveB orderOut (ns[j]'(by omega)).a1 ns[j + 1].a1
   ·refine ⟨fun h => ?_, fun _ => win_down hk ha⟩
    unfold takeC at h
    rw [if_neg (by rw [hi]; simp), if_pos ⟨hne, by rw [hl]; exact ha⟩] at h
    omega
   ·refine ⟨fun _ => win_step hk hw hi ha, fun h => ?_⟩
    exfalso
    apply h
    unfold takeC
    rw [if_neg (by rw [hi]; simp), if_neg (by rw [hl, ha]; simp)]
theorem RawIs.snoc {w : World} {xs : List RawI} {ns : List ItemV} {k : Nat} (h : RawIs w xs (ns.take k)) (hk : k < ns.length) (x : RawI) (hz : x.z = ns[k].a0) (hm : MarkSRd w x.v ns[k].a1) : RawIs w (xs ++ [x]) (ns.take (k + 1)) := by
 have hl := h.1
 simp at hl
 refine ⟨by simp; omega, fun i h1 h2 => ?_⟩
 simp at h1 h2
 have hkl : xs.length = k := by omega
 by_cases e : i = k
 ·subst e
  have e1 : (xs ++ [x])[i]'(by simp; omega) = x := by
   rw [List.getElem_append_right (by omega)]
   simp [hkl]
  rw [e1, List.getElem_take]
  exact ⟨hz, hm⟩
 ·rw [List.getElem_append_left (by omega), List.getElem_take]
  have := h.2 i (by omega) (by simp; omega)
  rw [List.getElem_take] at this
  exact this
/-- what windowOf answers -/
def RetWin (w : World) (ns : List ItemV) (e : Ending) (w' : World) : Prop :=
 (windowB orderOut ns = false ∧ e = .returned (.tuple #[.pointer none, .bool false])) ∨
 (windowB orderOut ns = true ∧ ∃ g xs, e = .returned (.tuple #[.pointer (some ⟨g, 0, none⟩), .bool true]) ∧ w.heap.size ≤ g ∧ RingF w' g 0 xs ∧ RawIs w xs ns)
theorem ringZero (w : World) (T : TypeId) : RingF (w.alloc (.cells #[.int .i64 0, .slice none 0 0, .int .i64 0, .slice none 0 0, .int .i64 0, .slice none 0 0, .int .i64 0, .slice none 0 0, .int .i64 0, .int .i64 0] T)) w.heap.size 0 [] := by
 have h := boxF_new w [.int .i64 0, .slice none 0 0, .int .i64 0, .slice none 0 0, .int .i64 0, .slice none 0 0, .int .i64 0, .slice none 0 0, .int .i64 0, .int .i64 0] T
 refine ⟨⟨h.1.1, by omega, by simp, h.1.2 8 _ rfl, h.1.2 9 _ rfl, fun i hi => by simp at hi⟩, fun i hi => ⟨h.2 i (by simpa using hi), ?_⟩⟩
 have hi' : i < [Value.int .i64 0, .slice none 0 0, .int .i64 0, .slice none 0 0, .int .i64 0, .slice none 0 0, .int .i64 0, .slice none 0 0, .int .i64 0, .int .i64 0].length := by simpa using hi
 exact ⟨_, h.1.2 i _ (List.getElem?_eq_getElem hi')⟩

set_option maxRecDepth 100000 in
set_option maxHeartbeats 4000000 in
theorem windowOf_row (w : World) (b off cap : Nat) (ns : List ItemV) (hl : (ns.length : Int) ≤ 4) (hs : SmallItemS ns) (hc : ItemAt w b off ns) (hb : b < w.heap.size) :
  Calls Tryz.prog 89 #[.slice (some ⟨b, off, none⟩) ns.length cap] w fun e w' => Hid (RetWin w ns e w') ∧ Below w.heap.size w w' := by
 have HS := hide hs.2
 have HC := hide hc
 have HZ := hide (ringZero w 172)
 clear hs hc
 go_enter Tryz.func89, Tryz.ntmps89
 go_wp2_with fail
 have hg0 : w.heap.size < (w.alloc (.cells #[.int .i64 0, .slice none 0 0, .int .i64 0, .slice none 0 0, .int .i64 0, .slice none 0 0, .int .i64 0, .slice none 0 0, .int .i64 0, .int .i64 0] 172)).heap.size := by simp
 have HB0 := hide ((Below.refl w.heap.size w).alloc (Nat.le_refl _) (.cells #[.int .i64 0, .slice none 0 0, .int .i64 0, .slice none 0 0, .int .i64 0, .slice none 0 0, .int .i64 0, .slice none 0 0, .int .i64 0, .int .i64 0] 172))
 go_loopw [14] (fun i wr => ∃ k : Nat, k ≤ ns.length ∧ i = .int .i64 k ∧ Hid (WinTo orderOut ns k ∧ ∃ xs, RingF wr w.heap.size 0 xs ∧ RawIs w xs (ns.take k)) ∧ Hid (Below w.heap.size w wr)) (fun i _ => ns.length - (intOf i).toNat)
 case atStart => exact ⟨0, Nat.zero_le _, rfl, hide ⟨win_zero _ _, [], unhide HZ, rfl, fun i h _ => absurd h (Nat.not_lt_zero _)⟩, HB0⟩
 case round =>
  obtain ⟨k, hk, rfl, HI, HBr⟩ := hrel
  by_cases hlt : k < ns.length
  ·obtain ⟨HW, xs, HRG, HX⟩ := unhide HI
   have HW := hide HW
   have HRG := hide HRG
   have HX := hide HX
   have hxl : xs.length = k := by have := (unhide HX).1; simp at this; omega
   obtain ⟨c0, v, c1, hv⟩ := (unhide HC).up hb (unhide HBr) k hlt
   have hv0 : MarkSRd w v ns[k].a1 := by
    obtain ⟨d0, v', d1, hv'⟩ := unhide HC k hlt
    have e : w.cell? ⟨b, off + k * 2 + 1, none⟩ = some v := ((unhide HBr).cell (p := ⟨b, off + k * 2 + 1, none⟩) hb).symm.trans c1
    rw [d1] at e
    cases e
    exact hv'
   obtain ⟨a, n, c, rfl⟩ := hv.form
   have HTS := hide (take_step hlt (unhide HW))
   have bbr := (Below.refl wr.heap.size wr).alloc (Nat.le_refl _) (.cells #[.int .i64 ns[k].a0, .slice a n c] 44)
   have HTK := hide (take_any w w.heap.size 0 xs (ns.take k) ⟨ns[k].a0, a, n, c⟩ ns[k] (wr.alloc (.cells #[.int .i64 ns[k].a0, .slice a n c] 44)) ((unhide HBr).trans (bbr.mono (unhide HBr).size)) (Nat.le_refl _) ((unhide HRG).up bbr) (unhide HX) (fun y hy => unhide HS y (List.mem_of_mem_take hy)) hv0 (unhide HS _ (List.getElem_mem hlt)).2)
   have HSN := hide ((unhide HX).snoc hlt ⟨ns[k].a0, a, n, c⟩ rfl hv0)
   have HPL := hide (show takeC (ns.take k) ns[k] = 0 → takeSt (ns.take k) ns[k] 0 xs = 0 ∧ takeL (ns.take k) ns[k] xs ⟨ns[k].a0, a, n, c⟩ = xs ++ [⟨ns[k].a0, a, n, c⟩] from fun h => by
    obtain ⟨_, e1, e2⟩ := take_eq (ns := ns.take k) (nv := ns[k]) 0 xs ⟨ns[k].a0, a, n, c⟩ h
    rw [e1, e2]
    exact ⟨by simp [putSt, hxl]; omega, by simp [putL, hxl]; omega⟩)
   have HG := hide (show w.heap.size ≤ wr.heap.size from (unhide HBr).size)
   clear hv hv0 hxl HRG HX HI bbr
   dsimp only at HTK
   generalize takeC (ns.take k) ns[k] = tc at *
   generalize takeSt (ns.take k) ns[k] 0 xs = ts at *
   generalize takeL (ns.take k) ns[k] xs ⟨ns[k].a0, a, n, c⟩ = tl at *
   generalize ns[k].a0 = z at *
   have d2 : (k : Int) < (ns.length : Int) := by omega
   go_wp2_with fail
   refine (unhide HTK).mono ?_
   rintro e w2 ⟨rfl, HR2, HT2⟩
   have B2 := hide (show Below w.heap.size w w2 from ((unhide HBr).trans ((Below.refl _ _).alloc (unhide HBr).size _)).trans ((unhide HT2).below (by simp; have := unhide HG; omega) (by simp)))
   clear HT2 HTK c0 c1
   by_cases ht : tc = 0
   ·have HN := hide (show WinTo orderOut ns (k + 1) ∧ ∃ xs, RingF w2 w.heap.size 0 xs ∧ RawIs w xs (ns.take (k + 1)) from ⟨(unhide HTS).1 ht, tl, by rw [← (unhide HPL ht).1]; exact unhide HR2, by rw [(unhide HPL ht).2]; exact unhide HSN⟩)
    have q : (tc != 0) = false := by simp [ht]
    clear ht HPL HTS HSN HR2
    go_wp2_with fail
    go_roundw
    case rel => exact ⟨k + 1, by omega, by go_num, HN, B2⟩
    case measure => simp [intOf]; omega
   ·have HN := hide ((unhide HTS).2 ht)
    have q : (tc != 0) = true := by simp [ht]
    clear ht HPL HTS HSN HR2
    go_wp2_with fail
    go_ret2
    exact ⟨hide (.inl ⟨unhide HN, rfl⟩), unhide B2⟩
  ·have HE := hide (show windowB orderOut ns = true ∧ ∃ xs, RingF wr w.heap.size 0 xs ∧ RawIs w xs ns from by
    obtain ⟨h1, xs, h2, h3⟩ := unhide HI
    have e : k = ns.length := by omega
    subst e
    rw [List.take_length] at h3
    exact ⟨win_good (by omega) h1, xs, h2, h3⟩)
   clear HI
   go_wp2_with fail
   go_ret2
   obtain ⟨h1, xs, h2, h3⟩ := unhide HE
   exact ⟨hide (.inr ⟨h1, _, xs, rfl, Nat.le_refl _, h2, h3⟩), unhide HBr⟩
theorem windowOf_none (w : World) (a : Option Addr) (cap : Nat) : Calls Tryz.prog 89 #[.slice a 0 cap] w fun e w' => Hid (RetWin w [] e w') ∧ Below w.heap.size w w' := by
 have HZ := hide (ringZero w 172)
 have HB0 := hide ((Below.refl w.heap.size w).alloc (Nat.le_refl _) (.cells #[.int .i64 0, .slice none 0 0, .int .i64 0, .slice none 0 0, .int .i64 0, .slice none 0 0, .int .i64 0, .slice none 0 0, .int .i64 0, .int .i64 0] 172))
 have HR := hide (show windowB orderOut [] = true from win_good (by simp) (win_zero orderOut []))
 go_enter Tryz.func89, Tryz.ntmps89
 go_wp2_with fail
 refine wp_loop_rounds 1 ?_
 rw [rounds_succ]
 go_wp2_with fail
 go_ret2
 exact ⟨hide (.inr ⟨unhide HR, _, [], rfl, Nat.le_refl _, unhide HZ, rfl, fun i h _ => absurd h (Nat.not_lt_zero _)⟩), unhide HB0⟩
theorem windowOf_long (w : World) (a : Option Addr) (cap : Nat) (ns : List ItemV) (hl : ¬ (ns.length : Int) ≤ 4) : Calls Tryz.prog 89 #[.slice a ns.length cap] w fun e w' => Hid (RetWin w ns e w') ∧ Below w.heap.size w w' := by
 have HR := hide (show windowB orderOut ns = false from win_long (by omega))
 have g : 4 < (ns.length : Int) := by omega
 have HN := hide (show ∀ e w', windowB orderOut ns = false → e = .returned (.tuple #[.pointer none, .bool false]) → Hid (RetWin w ns e w') from fun e w' h1 h2 => hide (.inl ⟨h1, h2⟩))
 generalize ns.length = n at *
 go_enter Tryz.func89, Tryz.ntmps89
 go_wp2_with fail
 go_ret2
 exact ⟨unhide HN _ _ (unhide HR) rfl, Below.refl _ _⟩
/-- a window, or none -/
theorem windowOf_any (ns : List ItemV) (v : Value) (w : World) (hs : SmallItemS ns) (h : ItemSRd w v ns) : Calls Tryz.prog 89 #[v] w fun e w' => Hid (RetWin w ns e w') ∧ Below w.heap.size w w' := by
 obtain ⟨a, c, rfl, h⟩ := h
 by_cases hl : (ns.length : Int) ≤ 4
 ·rcases h with rfl | ⟨b, off, rfl, hb, hc⟩
  ·exact windowOf_none w a c
  ·exact windowOf_row w b off c ns hl hs hc hb
 ·exact windowOf_long w a c ns hl
end Go.Proofs.YtknkdbfgfcgkiaaGreatDoor

set_option linter.unusedVariables false
namespace Go.Proofs.YtknkdbfgfcgkiaaGreatDoor
open Go.RowKit Go.Maps Go.Deep

theorem retWin_form {w : World} {ns : List ItemV} {e : Ending} {w' : World} (h : RetWin w ns e w') : ∃ p, e = .returned (.tuple #[p, .bool (windowB orderOut ns)]) := by
 rcases h with ⟨h1, h2⟩ | ⟨h1, g, xs, h2, _⟩
 ·exact ⟨_, by rw [h1]; exact h2⟩
 ·exact ⟨_, by rw [h1]; exact h2⟩
set_option maxHeartbeats 1600000 in
theorem implWindow_any (ns : List ItemV) (v : Value) (w : World) (hs : SmallItemS ns) (h : ItemSRd w v ns) : Calls Tryz.prog 104 #[v] w fun e w' => e = .returned (.bool (windowB orderOut ns)) ∧ Below w.heap.size w w' := by
 have HW := hide (fun W (b : Below w.heap.size w W) => windowOf_any ns v W hs (h.up b))
 obtain ⟨a, n, c, rfl⟩ := h.form
 clear h hs
 go_enter Tryz.func104, Tryz.ntmps104
 go_wp2_with fail
 refine (unhide HW _ (Below.refl _ _)).mono ?_
 rintro e w1 ⟨HR, b1⟩
 obtain ⟨p, rfl⟩ := retWin_form (unhide HR)
 have B1 := hide b1
 clear b1 HR
 obtain ⟨r, HRR⟩ : ∃ r, Hid (windowB orderOut ns = r) := ⟨_, rfl⟩
 rw [unhide HRR]
 go_wp2_with fail
 go_ret
 exact ⟨ret_bool (unhide HRR).symm, unhide B1⟩
theorem specWindow_ok (ns : List ItemV) (v : Value) (w : World) (hs : SmallItemS ns) (h : ItemSRd w v ns) : Calls Tryz.prog 56 #[v] w fun e w' => e = .returned (.bool (windowB orderOut ns)) ∧ Below w.heap.size w w' := specWindow_any orderOut ordSaid ns v w hs h
end Go.Proofs.YtknkdbfgfcgkiaaGreatDoor

set_option linter.unusedVariables false
namespace Go.Proofs.YtknkdbfgfcgkiaaGreatDoor
open Go.RowKit Go.Maps Go.Deep

end Go.Proofs.YtknkdbfgfcgkiaaGreatDoor

set_option linter.unusedVariables false
namespace Go.Proofs.YtknkdbfgfcgkiaaGreatDoor
open Go.RowKit Go.Maps Go.Deep

theorem last_split {ns : List ItemV} (h : ns ≠ []) : ns.length - 1 < ns.length := by
 have := List.length_pos_iff.2 h
 omega
theorem win_item {ns : List ItemV} (hw : windowB orderOut ns = true) : ns.length ≤ 4 ∧ ∀ i (h : i < ns.length), ns[i].a1 ≠ [] ∧ ns[i].a1.length ≤ 12 := by
 simp only [windowB, Bool.and_eq_true, decide_eq_true_eq] at hw
 refine ⟨hw.1, fun i h => ?_⟩
 have := (hw.2 i h h).1
 simp only [itemB, mstampB, Bool.and_eq_true, decide_eq_true_eq, Bool.not_eq_true', decide_eq_false_iff_not] at this
 refine ⟨fun e => this.2 (by rw [e]; rfl), by omega⟩
theorem ItemAt.one {w : World} {b off k : Nat} {ns : List ItemV} (h : ItemAt w b off ns) (hk : k < ns.length) : ItemAt w b (off + k * 2) [ns[k]] := by
 intro i hi
 obtain rfl : i = 0 := by simpa using hi
 simpa using h k hk
end Go.Proofs.YtknkdbfgfcgkiaaGreatDoor

set_option linter.unusedVariables false
namespace Go.Proofs.YtknkdbfgfcgkiaaGreatDoor
open Go.RowKit Go.Maps Go.Deep Go.ChangeShapes Go.WideShapes Go.ChangeAt

def IntsAt (w : World) (b off : Nat) (ts : List Int) : Prop := ∀ i (h : i < ts.length), w.cell? ⟨b, off + i, none⟩ = some (.int .i64 ts[i])
def IntsIn (w : World) (a : Option Addr) (ts : List Int) : Prop := ts = [] ∨ ∃ b off, a = some ⟨b, off, none⟩ ∧ b < w.heap.size ∧ IntsAt w b off ts
def IntsOk (ts : List Int) : Prop := ∀ t ∈ ts, IntFit t
def IntSRd (w : World) (v : Value) (ts : List Int) : Prop := ∃ a c, v = .slice a ts.length c ∧ IntsIn w a ts
def IntSOwn (S : List Nat) (w : World) (v : Value) (ts : List Int) : Prop :=
 (S = [] ∧ ts = [] ∧ ∃ a c, v = .slice a 0 c) ∨ ∃ b off cap, S = [b] ∧ v = .slice (some ⟨b, off, none⟩) ts.length cap ∧ b < w.heap.size ∧ IntsAt w b off ts ∧ ∀ i, i < ts.length → w.frozen? ⟨b, off + i, none⟩ = false
theorem IntsAt.below {w w' : World} {B b off : Nat} {ts : List Int} (h : IntsAt w b off ts) (hb : Below B w w') (hB : b < B) : IntsAt w' b off ts := fun i hi => (hb.cell (by exact hB)).trans (h i hi)
theorem IntsAt.turn {w w' : World} {S : List Nat} {b off : Nat} {ts : List Int} (h : IntsAt w b off ts) (ht : Turn S w w') (hb : b < w.heap.size) (hS : b ∉ S) : IntsAt w' b off ts := fun i hi => (ht.cell hb hS).trans (h i hi)
theorem IntsIn.below {w w' : World} {a : Option Addr} {ts : List Int} (h : IntsIn w a ts) (hb : Below w.heap.size w w') : IntsIn w' a ts := by
 rcases h with h | ⟨b, off, e, hb', hc⟩
 ·exact .inl h
 ·exact .inr ⟨b, off, e, Nat.lt_of_lt_of_le hb' hb.size, hc.below hb hb'⟩
theorem IntSRd.up {w w' : World} {v : Value} {ts : List Int} (h : IntSRd w v ts) (hb : Below w.heap.size w w') : IntSRd w' v ts := by
 obtain ⟨a, c, e, h⟩ := h
 exact ⟨a, c, e, h.below hb⟩
theorem IntSRd.form {w : World} {v : Value} {ts : List Int} (h : IntSRd w v ts) : ∃ a n c, v = .slice a n c := by
 obtain ⟨a, c, e, _⟩ := h
 exact ⟨a, _, c, e⟩
theorem IntSOwn.rd {S : List Nat} {w : World} {v : Value} {ts : List Int} (h : IntSOwn S w v ts) : IntSRd w v ts := by
 rcases h with ⟨_, rfl, a, c, rfl⟩ | ⟨b, off, cap, _, rfl, hb, hc, _⟩
 ·exact ⟨a, c, rfl, .inl rfl⟩
 ·exact ⟨_, cap, rfl, .inr ⟨b, off, rfl, hb, hc⟩⟩
theorem IntSOwn.turn {S S' : List Nat} {w w' : World} {v : Value} {ts : List Int} (h : IntSOwn S w v ts) (ht : Turn S' w w') (hS : ∀ k ∈ S, k ∉ S') : IntSOwn S w' v ts := by
 rcases h with h | ⟨b, off, cap, rfl, rfl, hb, hc, hf⟩
 ·exact .inl h
 ·have hn := hS b (by simp)
  exact .inr ⟨b, off, cap, rfl, rfl, Nat.lt_of_lt_of_le hb ht.size, hc.turn ht hb hn, fun i hi => (ht.frozen hb hn).trans (hf i hi)⟩
theorem IntSOwn.up {S : List Nat} {w w' : World} {v : Value} {ts : List Int} (h : IntSOwn S w v ts) (hb : Below w.heap.size w w') : IntSOwn S w' v ts := h.turn (Turn.of_below (S := []) hb) (by simp)
theorem IntSOwn.lt {S : List Nat} {w : World} {v : Value} {ts : List Int} (h : IntSOwn S w v ts) : ∀ k ∈ S, k < w.heap.size := by
 rcases h with ⟨rfl, _⟩ | ⟨b, off, cap, rfl, rfl, hb, _⟩
 ·simp
 ·simpa using hb
def SmallIntS (ts : List Int) : Prop := ts.length ≤ 1048576 ∧ IntsOk ts
def nIntS (ts : List Int) : Nat := ts.length
theorem infoInt : (Tryz.prog.info? 3).map (fun i => (i.zero, i.size, i.bytes)) = some (some (.int .i64 0), 1, 8) := by kernel_rfl
set_option maxHeartbeats 1600000 in
theorem eqIntS_row (w : World) (b off cap b' off' cap' : Nat) (ts : List Int) (hl : ts.length ≤ 1048576) (hc : IntsAt w b off ts) (hc' : IntsAt w b' off' ts) (hb : b < w.heap.size) (hb' : b' < w.heap.size) :
  Calls Tryz.prog 40 #[.slice (some ⟨b, off, none⟩) ts.length cap, .slice (some ⟨b', off', none⟩) ts.length cap'] w fun e w' => e = .returned (.bool true) ∧ Below w.heap.size w w' := by
 have HC := hide hc
 have HC' := hide hc'
 clear hc hc'
 go_enter Tryz.func40, Tryz.ntmps40
 go_wp2_with fail
 go_loopw [5] (fun i wr => ∃ (k : Nat), k ≤ ts.length ∧ i = .int .i64 k ∧ Hid (Below w.heap.size w wr)) (fun i _ => ts.length - (intOf i).toNat)
 case atStart => exact ⟨0, Nat.zero_le _, rfl, Below.refl _ _⟩
 case round =>
  obtain ⟨k, hk, rfl, HB⟩ := hrel
  by_cases hlt : k < ts.length
  ·have c0 := ((unhide HB).cell (show b < w.heap.size from hb)).trans (unhide HC k hlt)
   have c1 := ((unhide HB).cell (show b' < w.heap.size from hb')).trans (unhide HC' k hlt)
   generalize ts[k] = t at c0 c1
   go_wp2_with fail
   go_quiet (fail)
   have HBD := hide ((unhide HB).trans ((belowN wr nq).mono (unhide HB).size))
   clear c0 c1
   go_wp2_with fail
   go_roundw
   case rel => exact ⟨k + 1, by omega, by go_num, HBD⟩
   case measure => simp [intOf]; omega
  ·go_wp2_with fail
   go_ret
   exact ⟨rfl, unhide HB⟩
theorem eqIntS_none (w : World) (a a' : Option Addr) (cap cap' : Nat) : Calls Tryz.prog 40 #[.slice a 0 cap, .slice a' 0 cap'] w fun e w' => e = .returned (.bool true) ∧ Below w.heap.size w w' := by
 go_enter Tryz.func40, Tryz.ntmps40
 go_wp2
 refine wp_loop_rounds 1 ?_
 rw [rounds_succ]
 go_wp2
 go_ret
 exact ⟨rfl, Below.refl _ _⟩
theorem eqIntS_kit (ts : List Int) (v v' : Value) (w : World) (hs : SmallIntS ts) (h : IntSRd w v ts) (h' : IntSRd w v' ts) :
  Calls Tryz.prog 40 #[v, v'] w fun e w' => e = .returned (.bool true) ∧ Below w.heap.size w w' := by
 obtain ⟨a, c, rfl, h⟩ := h
 obtain ⟨a', c', rfl, h'⟩ := h'
 rcases h with rfl | ⟨b, off, rfl, hb, hc⟩
 ·exact eqIntS_none w a a' c c'
 ·rcases h' with rfl | ⟨b', off', rfl, hb', hc'⟩
  ·exact eqIntS_none w _ a' c c'
  ·exact eqIntS_row w b off c b' off' c' ts hs.1 hc hc' hb hb'
end Go.Proofs.YtknkdbfgfcgkiaaGreatDoor
