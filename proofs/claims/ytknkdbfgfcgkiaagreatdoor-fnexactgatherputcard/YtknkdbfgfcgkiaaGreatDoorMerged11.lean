/-
  Rows of items that one may append to; a list of items copied by the specification.
-/
/-
  The program's copies of windows.
-/
/-
  Windows: the program's ring: the place of an item.
-/
/-
  What the rounds of a range over a function keep: all blocks below a number but the listed ones.
-/
import Derived.Test.YtknkdbfgfcgkiaaGreatDoorMerged10
import Derived.Test.YtknkdbfgfcgkiaaGreatDoorMerged5
import Derived.Test.YtknkdbfgfcgkiaaGreatDoorMerged9
import Derived.Handy
import Derived.Test.YtknkdbfgfcgkiaaGreatDoorMerged3
import Derived.RangeFuncNested
import Derived.RangeFuncBound
import Derived.RangeFuncCalls
import Derived.RangeFuncLeaves
import Derived.Shelf.Abstract
import Derived.Shelf.RegionOpen
import Derived.OwnWalkIn
import Derived.TacticsInMore
import Derived.LoopNIn
import Derived.LoopIn
set_option linter.unusedVariables false
namespace Go.Proofs.YtknkdbfgfcgkiaaGreatDoor
open Go.RowKit Go.Maps Go.Deep

def itCells (xs : List (Int × Value)) : List Value := xs.flatMap fun x => [.int .i64 x.1, x.2]
theorem itCells_snoc (ns : List (Int × Value)) (x : Int × Value) : itCells (ns ++ [x]) = itCells ns ++ [.int .i64 x.1, x.2] := by simp [itCells]
theorem itCells_get (ns : List (Int × Value)) (i : Nat) (h : i < ns.length) : (itCells ns)[i * 2]? = some (.int .i64 ns[i].1) ∧ (itCells ns)[i * 2 + 1]? = some ns[i].2 := by
 induction ns generalizing i with
 | nil => simp at h
 | cons x xs ih =>
  cases i with
  | zero => simp [itCells]
  | succ i =>
   have := ih i (by simpa using h)
   have e : itCells (x :: xs) = [.int .i64 x.1, x.2] ++ itCells xs := by simp [itCells]
   rw [e, show (i + 1) * 2 = i * 2 + 1 + 1 by omega]
   simpa using this
/-- a row of items, at or above a block, that one may append to -/
def ItRow (B : Nat) (w : World) (v : Value) (xs : List (Int × Value)) : Prop := w.ownsRow B 44 2 v xs.length (itCells xs)
theorem ItRow.nil (B : Nat) (w : World) : ItRow B w (.slice none 0 0) [] := ⟨rfl, .inl ⟨rfl, rfl⟩⟩
theorem ItRow.slice {B : Nat} {w : World} {v : Value} {xs : List (Int × Value)} (h : ItRow B w v xs) : ∃ a c, v = .slice a xs.length c := by
 rcases h.2 with ⟨rfl, h0⟩ | ⟨g, cap, cur, rfl, _⟩
 ·rw [h0]; exact ⟨_, _, rfl⟩
 ·exact ⟨_, _, rfl⟩
theorem ItRow.ge {B : Nat} {w : World} {v : Value} {xs : List (Int × Value)} (h : ItRow B w v xs) : ∀ g, v.ownBlock = some g → B ≤ g := by
 intro g hg
 rcases h.2 with ⟨rfl, _⟩ | ⟨g', cap, cur, rfl, hB, _⟩
 ·simp [Value.ownBlock] at hg
 ·simp [Value.ownBlock] at hg; omega
theorem ItRow.lt {B : Nat} {w : World} {v : Value} {xs : List (Int × Value)} (h : ItRow B w v xs) : ∀ g, v.ownBlock = some g → g < w.heap.size := by
 intro g hg
 rcases h.2 with ⟨rfl, _⟩ | ⟨g', cap, cur, rfl, hB, hh, _⟩
 ·simp [Value.ownBlock] at hg
 ·simp [Value.ownBlock] at hg; rw [← hg]; exact (Array.getElem?_eq_some_iff.1 hh).1
theorem ItRow.keep {B : Nat} {w w' : World} {v : Value} {xs : List (Int × Value)} (h : ItRow B w v xs) (hk : ∀ g, v.ownBlock = some g → w'.heap[g]? = w.heap[g]?) : ItRow B w' v xs := by
 refine ⟨h.1, ?_⟩
 rcases h.2 with h0 | ⟨g, cap, cur, e, hB, hg, r⟩
 ·exact .inl h0
 ·exact .inr ⟨g, cap, cur, e, hB, (hk g (by rw [e]; rfl)).trans hg, r⟩
theorem ItRow.up {B : Nat} {w w' : World} {v : Value} {xs : List (Int × Value)} (h : ItRow B w v xs) (hb : Below w.heap.size w w') : ItRow B w' v xs := h.keep (fun g hg => hb.block g (h.lt g hg))
/-- a row of items and one of marks have blocks of two kinds -/
theorem ItRow.apart {B B' : Nat} {w : World} {v u : Value} {xs : List (Int × Value)} {ms : List MarkV} (h : ItRow B w v xs) (h' : MkRow B' w u ms) : ∀ k, u.ownBlock = some k → v.ownBlock ≠ some k := by
 intro k hk hv
 rcases h.2 with ⟨rfl, _⟩ | ⟨g, cap, cur, rfl, hB, hg, _⟩
 ·simp [Value.ownBlock] at hv
 ·rcases h'.2 with ⟨rfl, _⟩ | ⟨g', cap', cur', rfl, hB', hg', _⟩
  ·simp [Value.ownBlock] at hk
  ·simp [Value.ownBlock] at hk hv
   subst hk hv
   rw [hg] at hg'
   simp at hg'
/-- what the raw items stand for -/
def ItsAre (B : Nat) (w : World) (xs : List (Int × Value)) (ns : List ItemV) : Prop := xs.length = ns.length ∧ ∀ i (h : i < xs.length) (h' : i < ns.length), xs[i].1 = ns[i].a0 ∧ MkRow B w xs[i].2 ns[i].a1
theorem ItRow.rd {B : Nat} {w : World} {v : Value} {xs : List (Int × Value)} {ns : List ItemV} (h : ItRow B w v xs) (hx : ItsAre B w xs ns) : ItemSRd w v ns := by
 have hh : w.ownsRow B 44 2 v xs.length (itCells xs) := h
 rcases h with ⟨_, ⟨rfl, h0⟩ | ⟨g, cap, cur, rfl, hB, hg, hnc, _⟩⟩
 ·have e : ns = [] := List.eq_nil_of_length_eq_zero (by rw [← hx.1]; exact h0)
  subst e
  exact ⟨none, 0, rfl, .inl rfl⟩
 ·refine ⟨some ⟨g, 0, none⟩, cap, by rw [hx.1], .inr ⟨g, 0, rfl, (Array.getElem?_eq_some_iff.1 hg).1, fun i hi => ?_⟩⟩
  have hi' : i < xs.length := by rw [hx.1]; exact hi
  obtain ⟨e0, e1⟩ := itCells_get xs i hi'
  obtain ⟨f0, f1⟩ := hx.2 i hi' hi
  refine ⟨?_, xs[i].2, ?_, f1.rd⟩
  ·rw [Nat.zero_add, hh.cellAt _ (by omega), ← f0]; exact e0
  ·rw [Nat.zero_add, hh.cellAt _ (by omega)]; exact e1
theorem ItRow.one {B : Nat} {w : World} {v : Value} {z : Int} {q : Value} (h : ItRow B w v [(z, q)]) : ∃ ub c, v = .slice (some ⟨ub, 0, none⟩) 1 c ∧ w.cell? ⟨ub, 0, none⟩ = some (.int .i64 z) ∧ w.cell? ⟨ub, 1, none⟩ = some q := by
 have hh : w.ownsRow B 44 2 v 1 (itCells [(z, q)]) := h
 rcases h with ⟨_, ⟨rfl, h0⟩ | ⟨g, cap, cur, rfl, hB, hg, hnc, _⟩⟩
 ·simp at h0
 ·obtain ⟨e0, e1⟩ := itCells_get [(z, q)] 0 (by simp)
  refine ⟨g, cap, rfl, ?_, ?_⟩
  ·exact (hh.cellAt 0 (by simp)).trans e0
  ·exact (hh.cellAt 1 (by simp)).trans e1
theorem news_item {w : World} {g : Nat} {z : Int} {u : Value} (c0 : w.cell? ⟨g, 0, none⟩ = some (.int .i64 z)) (c1 : w.cell? ⟨g, 1, none⟩ = some u) : ∀ j x, ([.int .i64 z, u] : List Value)[j]? = some x → w.cell? ((⟨g, 0, none⟩ : Addr).add j) = some x := by
 intro j x hj
 match j, hj with
 | 0, hj => simp at hj; subst hj; simpa [Addr.add] using c0
 | 1, hj => simp at hj; subst hj; simpa [Addr.add] using c1
set_option maxHeartbeats 1600000 in
theorem l14Marks_any (ms : List MarkV) (v : Value) (w : World) (h0 : ms ≠ []) (hl : ms.length ≤ 1000000) (h : MarkSRd w v ms) :
  Calls Tryz.prog 28 #[v] w fun e w' => ∃ u, e = .returned u ∧ Hid (MkRow w.heap.size w' u ms) ∧ Below w.heap.size w w' := by
 have R0 := hide (mkLit0 w w.heap.size (Nat.le_refl _))
 have U := hide (h.up ((Below.refl _ _).alloc (Nat.le_refl _) (.cells #[] 112)))
 obtain ⟨a, n, c, rfl⟩ := h.form
 clear h
 go_enter Tryz.func28, Tryz.ntmps28
 go_wp2_with (first
  | (at_builtin; have _t := U; refine wpList_mksAppend rfl _ _ rfl w.heap.size _ _ [] ms rfl rfl (unhide R0) (unhide U) h0 (by simp; omega) (by simp) ?_; intro g1 n1 c1 w1 hn r1 g2 _; simp only [List.length_nil, Nat.zero_add] at hn; subst hn; simp only [List.nil_append] at r1; have R1 := hide r1; have B1 := hide ((Below.alloc (Below.refl w.heap.size w) (Nat.le_refl _) (.cells #[] 112)).grown g2 (by simp) (fun y hy => (unhide R0).ge y hy)); clear r1 g2 U)
  | fail)
 go_ret
 exact ⟨_, rfl, R1, unhide B1⟩
set_option maxHeartbeats 3200000 in
theorem l14Items_row (w : World) (b off cap : Nat) (ns : List ItemV) (hl : ns.length ≤ 8) (hm : ∀ x ∈ ns, x.a1 ≠ [] ∧ x.a1.length ≤ 1000000) (hb : b < w.heap.size) (hc : ItemAt w b off ns) :
  Calls Tryz.prog 57 #[.slice (some ⟨b, off, none⟩) ns.length cap] w fun e w' => ∃ u xs, e = .returned u ∧ Hid (ItRow w.heap.size w' u xs ∧ ItsAre w.heap.size w' xs ns) ∧ Below w.heap.size w w' := by
 have HC := hide (fun W (bW : Below w.heap.size w W) => hc.up hb bW)
 have HM := hide hm
 clear hc hm
 go_enter Tryz.func57, Tryz.ntmps57
 go_wp2_with fail
 go_loopw [3, 4] (fun v i wr => ∃ (k : Nat) (xs : List (Int × Value)), k ≤ ns.length ∧ i = .int .i64 k ∧ Hid (ItRow w.heap.size wr v xs) ∧ Hid (ItsAre w.heap.size wr xs (ns.take k)) ∧ Hid (Below w.heap.size w wr)) (fun _ i _ => ns.length - (intOf i).toNat)
 case atStart => exact ⟨0, [], Nat.zero_le _, rfl, ItRow.nil _ _, hide ⟨by simp, fun i h => by simp at h⟩, Below.refl _ _⟩
 case round =>
  obtain ⟨k, xs, hk, rfl, HR, HI, HBr⟩ := hrel
  obtain ⟨av, cv, hv⟩ := (unhide HR).slice
  have hxl : xs.length ≤ 8 := by rw [(unhide HI).1]; simp; omega
  subst hv
  by_cases hlt : k < ns.length
  ·obtain ⟨c0, u1, c1, HU⟩ := unhide HC wr (unhide HBr) k hlt
   have HMK := hide (fun W (bW : Below wr.heap.size wr W) => l14Marks_any ns[k].a1 u1 W (unhide HM _ (List.getElem_mem hlt)).1 (unhide HM _ (List.getElem_mem hlt)).2 (HU.up bW))
   obtain ⟨ua, un, uc, rfl⟩ := HU.form
   clear HU
   have HS := hide (show ∀ X, Below w.heap.size w X → X.cell? ⟨b, off + k * 2, none⟩ = some (.int .i64 ns[k].a0) ∧ X.cell? ⟨b, off + k * 2 + 1, none⟩ = some (.slice ua un uc) from fun X bX => by
    exact ⟨(unhide HC X bX k hlt).1, (bX.cell (p := ⟨b, off + k * 2 + 1, none⟩) hb).trans (((unhide HBr).cell (p := ⟨b, off + k * 2 + 1, none⟩) hb).symm.trans c1)⟩)
   have HTK := hide (show ns.take (k + 1) = ns.take k ++ [ns[k]] from List.take_succ_eq_append_getElem hlt)
   obtain ⟨x, hx⟩ : ∃ x, ns[k] = x := ⟨_, rfl⟩
   simp only [hx] at c0 HMK HS HTK
   clear hx c0 c1
   obtain ⟨z, ms⟩ := x
   simp only at HMK HS HTK
   go_wp2_with fail
   have BD := hide (show Below wr.heap.size wr wr.drew from (Below.refl _ _).drew)
   have BW := hide (show Below w.heap.size w wr.drew from (unhide HBr).drew)
   have RW := hide (show ItRow w.heap.size wr.drew (.slice av xs.length cv) xs from (unhide HR).keep (fun _ _ => rfl))
   have IW := hide (show ItsAre w.heap.size wr.drew xs (ns.take k) from ⟨(unhide HI).1, fun i h h' => ⟨((unhide HI).2 i h h').1, ((unhide HI).2 i h h').2.keep (fun _ _ => rfl)⟩⟩)
   have hS := unhide HS _ (unhide BW)
   refine wp_region_held_drew (S := fun X : World => X.cell? ⟨b, off + k * 2, none⟩ = some (.int .i64 z) ∧ X.cell? ⟨b, off + k * 2 + 1, none⟩ = some (.slice ua un uc)) (by kernel_rfl) hS ?_
   clear hS
   intro hS
   generalize wr.drew = W at *
   refine wpAnyH_take (i := 0) (v := .slice av xs.length cv) rfl (by kernel_rfl) (by kernel_rfl) (by kernel_rfl) (fun _ _ _ h => h) (Or.inl ⟨by rfl, ?_⟩) hS ?_
   ·intro X hX
    obtain ⟨h1, h2⟩ := hX
    clear hS
    go_simp
    try with_reducible rfl
   try simp [Act.put]
   refine wpAnyH_take (i := 1) (v := .slice (some ⟨b, off, none⟩) ns.length cap) rfl (by kernel_rfl) (by kernel_rfl) (by kernel_rfl) (fun _ _ _ h => h) (Or.inl ⟨by rfl, ?_⟩) hS ?_
   ·intro X hX
    obtain ⟨h1, h2⟩ := hX
    clear hS
    go_simp
    try with_reducible rfl
   try simp [Act.put]
   refine wpAnyH_take (i := 2) (v := .int .i64 (k : Int)) rfl (by kernel_rfl) (by kernel_rfl) (by kernel_rfl) (fun _ _ _ h => h) (Or.inl ⟨by rfl, ?_⟩) hS ?_
   ·intro X hX
    obtain ⟨h1, h2⟩ := hX
    clear hS
    go_simp
    try with_reducible rfl
   try simp [Act.put]
   refine wpAnyH_take (i := 3) (v := .pointer (some ⟨b, off + k * 2, none⟩)) rfl (by kernel_rfl) (by kernel_rfl) (by kernel_rfl) (fun _ _ _ h => h) (Or.inl ⟨by rfl, ?_⟩) hS ?_
   ·intro X hX
    obtain ⟨h1, h2⟩ := hX
    clear hS
    go_simp
    try with_reducible rfl
   try simp [Act.put]
   refine wpAnyH_take (i := 4) (v := .pointer (some ⟨b, off + k * 2, none⟩)) rfl (by kernel_rfl) (by kernel_rfl) (by kernel_rfl) (fun _ _ _ h => h) (Or.inl ⟨by rfl, ?_⟩) hS ?_
   ·intro X hX
    obtain ⟨h1, h2⟩ := hX
    clear hS
    go_simp
    try with_reducible rfl
   try simp [Act.put]
   refine wpAnyH_take (i := 5) (v := .int .i64 z) rfl (by kernel_rfl) (by kernel_rfl) (by kernel_rfl) (fun _ _ _ h => h) (Or.inl ⟨by rfl, ?_⟩) hS ?_
   ·intro X hX
    obtain ⟨h1, h2⟩ := hX
    clear hS
    go_simp
    try with_reducible rfl
   try simp [Act.put]
   refine wpAnyH_take (i := 6) (v := .slice (some ⟨b, off, none⟩) ns.length cap) rfl (by kernel_rfl) (by kernel_rfl) (by kernel_rfl) (fun _ _ _ h => h) (Or.inl ⟨by rfl, ?_⟩) hS ?_
   ·intro X hX
    obtain ⟨h1, h2⟩ := hX
    clear hS
    go_simp
    try with_reducible rfl
   try simp [Act.put]
   refine wpAnyH_take (i := 7) (v := .int .i64 (k : Int)) rfl (by kernel_rfl) (by kernel_rfl) (by kernel_rfl) (fun _ _ _ h => h) (Or.inl ⟨by rfl, ?_⟩) hS ?_
   ·intro X hX
    obtain ⟨h1, h2⟩ := hX
    clear hS
    go_simp
    try with_reducible rfl
   try simp [Act.put]
   refine wpAnyH_take (i := 8) (v := .pointer (some ⟨b, off + k * 2, none⟩)) rfl (by kernel_rfl) (by kernel_rfl) (by kernel_rfl) (fun _ _ _ h => h) (Or.inl ⟨by rfl, ?_⟩) hS ?_
   ·intro X hX
    obtain ⟨h1, h2⟩ := hX
    clear hS
    go_simp
    try with_reducible rfl
   try simp [Act.put]
   refine wpAnyH_take (i := 9) (v := .pointer (some ⟨b, off + k * 2 + 1, none⟩)) rfl (by kernel_rfl) (by kernel_rfl) (by kernel_rfl) (fun _ _ _ h => h) (Or.inl ⟨by rfl, ?_⟩) hS ?_
   ·intro X hX
    obtain ⟨h1, h2⟩ := hX
    clear hS
    go_simp
    try with_reducible rfl
   try simp [Act.put]
   refine wpAnyH_take (i := 10) (v := .slice ua un uc) rfl (by kernel_rfl) (by kernel_rfl) (by kernel_rfl) (fun _ _ _ h => h) (Or.inl ⟨by rfl, ?_⟩) hS ?_
   ·intro X hX
    obtain ⟨h1, h2⟩ := hX
    clear hS
    go_simp
    try with_reducible rfl
   try simp [Act.put]
   refine wpAnyH_ready (rs := [11]) (by kernel_rfl) (by simp) ?_
   refine AllReadyH.cons rfl (fun K hK => ?_) AllReadyH.nil
   go_simp
   go_wp2_with (go_at_call 28; refine (unhide HMK _ (unhide BD)).mono ?_; rintro e w1 ⟨y, rfl, Y1, b1⟩)
   obtain ⟨ya, yc, hy⟩ := MkRow.slice (unhide Y1)
   generalize hyn : ms.length = yn at hy
   subst hy
   clear hyn
   have B1 := hide ((unhide BW).trans (b1.mono (unhide BW).size))
   have R1 := hide ((unhide RW).up b1)
   have I1 := hide (show ItsAre w.heap.size w1 xs (ns.take k) from ⟨(unhide IW).1, fun i h h' => ⟨((unhide IW).2 i h h').1, ((unhide IW).2 i h h').2.up b1⟩⟩)
   have YW := hide (show MkRow w.heap.size w1 (.slice ya yn yc) ms from MkRow.mono (unhide Y1) (unhide BW).size)
   have bA : Below w1.heap.size w1 (w1.alloc (.cells #[.int .i64 z, .slice ya yn yc] 44)) := (Below.refl _ _).alloc (Nat.le_refl _) _
   have R2 := hide ((unhide R1).up bA)
   have I2 := hide (show ItsAre w.heap.size (w1.alloc (.cells #[.int .i64 z, .slice ya yn yc] 44)) xs (ns.take k) from ⟨(unhide I1).1, fun i h h' => ⟨((unhide I1).2 i h h').1, ((unhide I1).2 i h h').2.up bA⟩⟩)
   have Y2 := hide (MkRow.up (unhide YW) bA)
   have B2 := hide ((unhide B1).trans (bA.mono (unhide B1).size))
   have ca : (w1.alloc (.cells #[.int .i64 z, .slice ya yn yc] 44)).cell? ⟨w1.heap.size, 0, none⟩ = some (.int .i64 z) := World.cell?_alloc_at _ _ _ _ rfl
   have cb : (w1.alloc (.cells #[.int .i64 z, .slice ya yn yc] 44)).cell? ⟨w1.heap.size, 1, none⟩ = some (.slice ya yn yc) := World.cell?_alloc_at _ _ _ _ rfl
   refine hK.out _ _ (unhide HS _ (unhide B1)) ?_
   clear hK K b1 bA
   intro hS
   try simp [Act.put]
   refine wpAnyH_ready (rs := [12]) (by kernel_rfl) (by simp) ?_
   refine AllReadyH.cons rfl (fun K hK => ?_) AllReadyH.nil
   go_simp
   refine hK.out _ _ (hS) ?_
   clear hK K
   intro hS
   try simp [Act.put]
   refine wpAnyH_ready (rs := [13]) (by kernel_rfl) (by simp) ?_
   refine AllReadyH.cons rfl (fun K hK => ?_) AllReadyH.nil
   go_simp
   refine hK.out _ _ (unhide HS _ (unhide B2)) ?_
   clear hK K
   intro hS
   try simp [Act.put]
   refine wpAnyH_ready (rs := [14]) (by kernel_rfl) (by simp) ?_
   refine AllReadyH.cons rfl (fun K hK => ?_) AllReadyH.nil
   obtain ⟨i0, hi, hz0, hz1, hz2⟩ := info_parts1 infoItem
   refine step_append_lies _ (by rfl) (.tmp 11) (.tmp 24) 60 (by rfl) w.heap.size 44 i0 _ 2 32 Tryz.underlying60 hi hz0 hz1 hz2 rfl (by decide) (.slice av xs.length cv) xs.length (itCells xs) (by rfl) (unhide R2) ⟨w1.heap.size, 0, none⟩ 1 1 [.int .i64 z, .slice ya yn yc] (by rfl) rfl (news_item ca cb) (by intro u hu; simp at hu; rcases hu with rfl | rfl <;> rfl) (by decide) (by unfold maxLen; omega) (by omega) (unhide B2).size _ rfl ?_
   intro g2 c2 w3 hown hgrow hor hlt3
   have R3 := hide (show ItRow w.heap.size w3 (.slice (some ⟨g2, 0, none⟩) (xs.length + 1) c2) (xs ++ [(z, .slice ya yn yc)]) by
    unfold ItRow
    rw [itCells_snoc, List.length_append]
    exact hown)
   have B3 := hide ((unhide B2).grown hgrow (unhide B2).size (fun y hy => (unhide R2).ge y hy))
   have I3 := hide (show ItsAre w.heap.size w3 (xs ++ [(z, .slice ya yn yc)]) (ns.take (k + 1)) by
    have far : ∀ {u : Value} {q : List MarkV}, MkRow w.heap.size (w1.alloc (.cells #[.int .i64 z, .slice ya yn yc] 44)) u q → MkRow w.heap.size w3 u q := fun {u q} h => MkRow.keep h (fun g hg => hgrow.block g (MkRow.lt h g hg) (fun e => ItRow.apart (unhide R2) h g hg e.symm))
    rw [unhide HTK]
    have hlen := (unhide I2).1
    refine ⟨by rw [List.length_append, List.length_append, hlen]; rfl, fun i h h' => ?_⟩
    by_cases hi : i < xs.length
    ·rw [List.getElem_append_left hi, List.getElem_append_left (by rw [← hlen]; exact hi)]
     exact ⟨((unhide I2).2 i hi (by rw [← hlen]; exact hi)).1, far ((unhide I2).2 i hi (by rw [← hlen]; exact hi)).2⟩
    ·have e : i = xs.length := by rw [List.length_append] at h; simp at h; omega
     subst e
     rw [List.getElem_append_right (Nat.le_refl _), List.getElem_append_right (by omega)]
     simp only [Nat.sub_self, hlen, List.getElem_singleton]
     exact ⟨trivial, far (unhide Y2)⟩)
   refine hK.out _ _ (unhide HS w3 (unhide B3)) ?_
   clear hK K hown hgrow hor ca cb
   intro hS
   try simp [Act.put]
   refine wpAnyH_ready (rs := [15]) (by kernel_rfl) (by simp) ?_
   refine AllReadyH.cons rfl (fun K hK => ?_) AllReadyH.nil
   go_simp
   refine hK.out _ _ (hS) ?_
   clear hK K
   intro hS
   try simp [Act.put]
   refine wpAnyH_done (by kernel_rfl) ?_ _
   clear hS hxl
   generalize xs ++ [(z, .slice ya yn yc)] = xs' at *
   go_wp2_with fail
   go_roundw
   case rel => exact ⟨k + 1, xs', by omega, by go_num, R3, I3, B3⟩
   case measure => simp [intOf]; omega
  ·have hke : k = ns.length := by omega
   have HQ := hide (show ItRow w.heap.size wr (.slice av xs.length cv) xs ∧ ItsAre w.heap.size wr xs ns by
    have h := unhide HI
    rw [hke, List.take_length] at h
    exact ⟨unhide HR, h⟩)
   clear hke
   go_wp2_with fail
   go_ret
   exact ⟨_, xs, rfl, HQ, unhide HBr⟩
/-- one more item -/
theorem wpList_itAppend {w : World} {ops : Array Oper} {rest : List Oper} {o : Oper} {a : Act} {Q : Exit → Act → World → Prop} (hgd : o.guard = none) (s x : Operand)
  (ho : o.op = .call { callee := .builtin .append, args := #[s, x], argTypes := #[60, 60] }) (B : Nat) (v : Value) (ns : List (Int × Value)) (z : Int) (ya : Option Addr) (yn yc : Nat) (g : Nat) (hs : a.eval s = v) (hx : a.eval x = .slice (some ⟨g, 0, none⟩) 1 1)
  (hv : ItRow B w v ns) (c0 : w.cell? ⟨g, 0, none⟩ = some (.int .i64 z)) (c1 : w.cell? ⟨g, 1, none⟩ = some (.slice ya yn yc)) (hl : ns.length ≤ 1000000) (hB : B ≤ w.heap.size)
  (h : ∀ g' n c w', ItRow B w' (.slice (some ⟨g', 0, none⟩) n c) (ns ++ [(z, .slice ya yn yc)]) → w.grownBy w' v.ownBlock → (v.ownBlock = some g' ∨ g' = w.heap.size) → wpList Tryz.prog ops Q rest (a.put o.dst (.slice (some ⟨g', 0, none⟩) n c)) w') : wpList Tryz.prog ops Q (o :: rest) a w := by
 obtain ⟨i0, hi, hz0, hz1, hz2⟩ := info_parts1 infoItem
 refine wpList_append_lies w hgd s x 60 ho B 44 i0 _ 2 32 Tryz.underlying60 hi hz0 hz1 hz2 rfl (by decide) v ns.length (itCells ns) hs hv ⟨g, 0, none⟩ 1 1 [.int .i64 z, .slice ya yn yc] hx rfl (news_item c0 c1) (by intro u hu; simp at hu; rcases hu with rfl | rfl <;> rfl) (by decide) (by unfold maxLen; omega) (by omega) hB w.heap.size rfl ?_
 intro g' cap w' h2 h3 h4 h5
 refine h g' _ cap w' ?_ h3 h4
 unfold ItRow
 rw [itCells_snoc, List.length_append]
 exact h2
theorem ItRow.cap {B : Nat} {w : World} {p : Addr} {n c : Nat} {xs : List (Int × Value)} (h : ItRow B w (.slice (some p) n c) xs) : xs.length ≤ c := by
 rcases h.2 with ⟨h', _⟩ | ⟨g, cap, cur, h', hB, hg, hnc, _⟩
 ·simp at h'
 ·simp only [Value.slice.injEq] at h'
  obtain ⟨_, _, rfl⟩ := h'
  exact hnc
end Go.Proofs.YtknkdbfgfcgkiaaGreatDoor

set_option linter.unusedVariables false
namespace Go.Proofs.YtknkdbfgfcgkiaaGreatDoor
open Go.RowKit Go.Maps Go.Deep

/-- no two of them have their marks in one block -/
def ApartX (xs : List (Int × Value)) : Prop := ∀ i j (hi : i < xs.length) (hj : j < xs.length), i ≠ j → ∀ b, xs[i].2.ownBlock = some b → xs[j].2.ownBlock ≠ some b
/-- items in a row of one's own, each one's marks in a block of its own -/
def ItOwn (B : Nat) (w : World) (u : Value) (ns : List ItemV) : Prop := ∃ xs, ItRow B w u xs ∧ ItsAre B w xs ns ∧ ApartX xs
theorem ItOwn.nil (B : Nat) (w : World) : ItOwn B w (.slice none 0 0) [] := ⟨[], ItRow.nil _ _, ⟨rfl, fun i h => by simp at h⟩, fun i j h => by simp at h⟩
theorem ItOwn.full {B : Nat} {w : World} {u : Value} {ns : List ItemV} (h : ItOwn B w u ns) : ∃ S, ItemSFull S w u ns ∧ ∀ k ∈ S, B ≤ k := by
 obtain ⟨xs, hr, hx, ha⟩ := h
 have hrow := hr
 have hh : w.ownsRow B 44 2 u xs.length (itCells xs) := hr
 have hl := hx.1
 rcases hr with ⟨_, ⟨rfl, h0⟩ | ⟨g, cap, cur, rfl, hB, hg, hnc, _⟩⟩
 ·have e : ns = [] := List.eq_nil_of_length_eq_zero (by omega)
  subst e
  exact ⟨[], ⟨none, 0, rfl, Nat.le_refl _, by simp, .inl rfl⟩, by simp⟩
 ·have hgl : g < w.heap.size := (Array.getElem?_eq_some_iff.1 hg).1
  have hcap : xs.length ≤ cap := ItRow.cap hrow
  have hf := fun i (hi : i < xs.length) => (hx.2 i hi (by omega)).2.own
  let G : Nat → List Nat := fun i => if hi : i < xs.length then Classical.choose (hf i hi) else []
  have hG : ∀ i (hi : i < xs.length) (hi' : i < ns.length), MarkSOwn (G i) w xs[i].2 ns[i].a1 ∧ (∀ k ∈ G i, B ≤ k) ∧ ∀ k ∈ G i, xs[i].2.ownBlock = some k := fun i hi hi' => by
   have := Classical.choose_spec (hf i hi)
   simp only [G, dif_pos hi]
   exact this
  refine ⟨g :: (List.range ns.length).flatMap G, ⟨_, cap, by rw [hl], by omega, ?_, .inr ⟨g, 0, G, rfl, by simp, ?_, ?_, ?_, ?_⟩⟩, ?_⟩
  ·intro k hk
   simp only [List.mem_cons, List.mem_flatMap, List.mem_range] at hk
   rcases hk with rfl | ⟨i, hi, hk⟩
   ·exact hgl
   ·exact (hG i (by omega) hi).1.lt k hk
  ·intro i hi k hk
   simp only [List.mem_cons, List.mem_flatMap, List.mem_range]
   exact .inr ⟨i, hi, hk⟩
  ·intro i hi
   rw [Nat.zero_add]
   exact rowFrozen hh i (by omega)
  ·intro i j hi hj hij k hk hm
   exact ha i j (by omega) (by omega) hij k ((hG i (by omega) hi).2.2 k hk) ((hG j (by omega) hj).2.2 k hm)
  ·intro i hi
   obtain ⟨e0, e1⟩ := itCells_get xs i (by omega)
   obtain ⟨f0, f1⟩ := hx.2 i (by omega) hi
   refine ⟨?_, fun hm => ?_, xs[i].2, ?_, (hG i (by omega) hi).1⟩
   ·rw [Nat.zero_add, hh.cellAt _ (by omega), ← f0]; exact e0
   ·exact hrow.apart f1 g ((hG i (by omega) hi).2.2 g hm) rfl
   ·rw [Nat.zero_add, hh.cellAt _ (by omega)]; exact e1
  ·intro k hk
   simp only [List.mem_cons, List.mem_flatMap, List.mem_range] at hk
   rcases hk with rfl | ⟨i, hi, hk⟩
   ·exact hB
   ·exact (hG i (by omega) hi).2.1 k hk
theorem ItOwn.snoc {B : Nat} {w w1 w2 : World} {u u' : Value} {xs : List (Int × Value)} {ns : List ItemV} {z : Int} {y : Value} {ms : List MarkV} (hx : ItsAre B w xs ns) (ha : ApartX xs) (hb : Below w.heap.size w w1)
  (hr1 : ItRow B w1 u xs) (hy : MkRow B w1 y ms) (hyo : ∀ k, y.ownBlock = some k → w.heap.size ≤ k) (hr : ItRow B w2 u' (xs ++ [(z, y)])) (hg : w1.grownBy w2 u.ownBlock) : ItsAre B w2 (xs ++ [(z, y)]) (ns ++ [⟨z, ms⟩]) ∧ ApartX (xs ++ [(z, y)]) := by
 have hlen := hx.1
 have far : ∀ {v : Value} {q : List MarkV}, MkRow B w1 v q → MkRow B w2 v q := fun {v q} h => MkRow.keep h (fun g hg' => hg.block g (MkRow.lt h g hg') (fun e => ItRow.apart hr1 h g hg' e.symm))
 refine ⟨⟨by rw [List.length_append, List.length_append, hlen]; rfl, fun i h h' => ?_⟩, fun i j h h' hij b hb1 hb2 => ?_⟩
 ·by_cases hi : i < xs.length
  ·rw [List.getElem_append_left hi, List.getElem_append_left (by rw [← hlen]; exact hi)]
   exact ⟨(hx.2 i hi (by rw [← hlen]; exact hi)).1, far ((hx.2 i hi (by rw [← hlen]; exact hi)).2.up hb)⟩
  ·have e : i = xs.length := by rw [List.length_append] at h; simp at h; omega
   subst e
   rw [List.getElem_append_right (Nat.le_refl _), List.getElem_append_right (by omega)]
   simp only [Nat.sub_self, hlen, List.getElem_singleton]
   exact ⟨trivial, far hy⟩
 ·rw [List.length_append] at h h'
  simp only [List.length_cons, List.length_nil] at h h'
  have old : ∀ q (hq : q < xs.length), xs[q].2.ownBlock = some b → b < w.heap.size := fun q hq e => (hx.2 q hq (by omega)).2.lt b e
  rcases Nat.lt_or_ge i xs.length with hi | hi <;> rcases Nat.lt_or_ge j xs.length with hj | hj
  ·rw [List.getElem_append_left hi] at hb1
   rw [List.getElem_append_left hj] at hb2
   exact ha i j hi hj hij b hb1 hb2
  ·rw [List.getElem_append_left hi] at hb1
   rw [List.getElem_append_right hj] at hb2
   simp only [List.getElem_singleton] at hb2
   have := old i hi hb1
   have := hyo b hb2
   omega
  ·rw [List.getElem_append_right hi] at hb1
   rw [List.getElem_append_left hj] at hb2
   simp only [List.getElem_singleton] at hb1
   have := old j hj hb2
   have := hyo b hb1
   omega
  ·omega
/-- windows in a row of one's own, each in blocks of its own -/
structure WinsR (B : Nat) (w : World) (u : Value) (vs : List Value) (G : Nat → List Nat) (ws : List (List ItemV)) : Prop where
 row : WiRow B w u vs
 len : vs.length = ws.length
 each : ∀ i (h : i < vs.length) (h' : i < ws.length), ItemSFull (G i) w vs[i] ws[i]
 apart : ApartG G ws.length
 ge : ∀ i, i < ws.length → ∀ k ∈ G i, B ≤ k ∧ u.ownBlock ≠ some k
theorem WinsR.nil (B : Nat) (w : World) : WinsR B w (.slice none 0 0) [] (fun _ => []) [] := ⟨WiRow.nil _ _, rfl, fun i h => by simp at h, fun i j h => by simp at h, fun i h => by simp at h⟩
theorem WinsR.lt {B : Nat} {w : World} {u : Value} {vs : List Value} {G : Nat → List Nat} {ws : List (List ItemV)} (h : WinsR B w u vs G ws) : ∀ i, i < ws.length → ∀ k ∈ G i, k < w.heap.size := fun i hi k hk => (h.each i (by rw [h.len]; exact hi) hi).lt k hk
theorem WinsR.turn {B : Nat} {S : List Nat} {w w' : World} {u : Value} {vs : List Value} {G : Nat → List Nat} {ws : List (List ItemV)} (h : WinsR B w u vs G ws) (t : Turn S w w') (hS : ∀ k ∈ S, k < B) : WinsR B w' u vs G ws :=
 ⟨h.row.keep (fun g hg => t.block g (h.row.lt g hg) (fun hm => by have := h.row.ge g hg; have := hS g hm; omega)), h.len, fun i h1 h2 => (h.each i h1 h2).turn t (fun k hk hm => by have := (h.ge i h2 k hk).1; have := hS k hm; omega), h.apart, h.ge⟩
theorem WinsR.up {B : Nat} {w w' : World} {u : Value} {vs : List Value} {G : Nat → List Nat} {ws : List (List ItemV)} (h : WinsR B w u vs G ws) (hb : Below w.heap.size w w') : WinsR B w' u vs G ws := h.turn (Turn.of_below (S := []) hb) (by simp)
theorem WinsR.snoc {B : Nat} {w w1 w2 : World} {u u' : Value} {vs : List Value} {G : Nat → List Nat} {ws : List (List ItemV)} {y : Value} {x : List ItemV} {T : List Nat} (h : WinsR B w u vs G ws) (hb : Below w.heap.size w w1) (hB : B ≤ w.heap.size)
  (hy : ItemSFull T w1 y x) (hT : ∀ k ∈ T, w.heap.size ≤ k) (hr : WiRow B w2 u' (vs ++ [y])) (hg : w1.grownBy w2 u.ownBlock) (hl : ∀ k, u'.ownBlock = some k → u.ownBlock = some k ∨ w1.heap.size ≤ k) :
  WinsR B w2 u' (vs ++ [y]) (fun i => if i = ws.length then T else G i) (ws ++ [x]) := by
 have t2 : Turn u.ownBlock.toList w1 w2 := Turn.of_grown hg (fun k hk => .inl (by simpa using hk))
 have hl1 := hb.size
 have hlen := h.len
 refine ⟨hr, by rw [List.length_append, List.length_append, h.len]; rfl, fun i h1 h2 => ?_, fun i j hi hj hij k hk hm => ?_, fun i hi k hk => ?_⟩
 ·by_cases e : i < vs.length
  ·have e' : i < ws.length := by omega
   rw [List.getElem_append_left e, List.getElem_append_left e']
   simp only [if_neg (show ¬ i = ws.length by omega)]
   exact ((h.each i e e').up hb).turn t2 (fun k hk hm => (h.ge i e' k hk).2 (by simpa using hm))
  ·rw [List.length_append] at h1
   simp only [List.length_cons, List.length_nil] at h1
   have e1 : i = ws.length := by omega
   subst e1
   rw [List.getElem_append_right (by omega), List.getElem_append_right (Nat.le_refl _)]
   simp only [if_true, List.getElem_singleton]
   exact hy.turn t2 (fun k hk hm => by have := hT k hk; have := h.row.lt k (by simpa using hm); omega)
 ·rw [List.length_append] at hi hj
  simp only [List.length_cons, List.length_nil] at hi hj
  by_cases e1 : i = ws.length <;> by_cases e2 : j = ws.length
  ·omega
  ·simp only [if_pos e1] at hk
   simp only [if_neg e2] at hm
   have := hT k hk
   have := h.lt j (by omega) k hm
   omega
  ·simp only [if_neg e1] at hk
   simp only [if_pos e2] at hm
   have := hT k hm
   have := h.lt i (by omega) k hk
   omega
  ·simp only [if_neg e1] at hk
   simp only [if_neg e2] at hm
   exact h.apart i j (by omega) (by omega) hij k hk hm
 ·rw [List.length_append] at hi
  simp only [List.length_cons, List.length_nil] at hi
  by_cases e1 : i = ws.length
  ·simp only [if_pos e1] at hk
   have := hT k hk
   refine ⟨by omega, fun e => ?_⟩
   rcases hl k e with h3 | h3
   ·have := h.row.lt k h3; omega
   ·have := hy.lt k hk; omega
  ·simp only [if_neg e1] at hk
   refine ⟨(h.ge i (by omega) k hk).1, fun e => ?_⟩
   rcases hl k e with h3 | h3
   ·exact (h.ge i (by omega) k hk).2 h3
   ·have := h.lt i (by omega) k hk; omega
theorem WinsR.full {B : Nat} {w : World} {u : Value} {vs : List Value} {G : Nat → List Nat} {ws : List (List ItemV)} (h : WinsR B w u vs G ws) : ∃ S, ItemSSFull S w u ws ∧ ∀ k ∈ S, B ≤ k := by
 have hl := h.len
 rcases h.row.slice with ⟨rfl, h0⟩ | ⟨g, c, rfl, hc, hg, hcell⟩
 ·have e : ws = [] := List.eq_nil_of_length_eq_zero (by rw [← hl, h0]; rfl)
  subst e
  exact ⟨[], ⟨none, 0, rfl, by simp, .inl rfl⟩, by simp⟩
 ·refine ⟨g :: (List.range ws.length).flatMap G, ⟨_, c, by rw [hl], fun k hk => ?_, .inr ⟨g, 0, G, rfl, by simp, fun i hi k hk => ?_, h.apart, fun i hi => ⟨fun hm => (h.ge i hi g hm).2 rfl, vs[i], ?_, h.each i (by omega) hi⟩⟩⟩, fun k hk => ?_⟩
  ·simp only [List.mem_cons, List.mem_flatMap, List.mem_range] at hk
   rcases hk with rfl | ⟨i, hi, hk⟩
   ·exact hg
   ·exact h.lt i hi k hk
  ·simp only [List.mem_cons, List.mem_flatMap, List.mem_range]
   exact .inr ⟨i, hi, hk⟩
  ·rw [Nat.zero_add]
   exact hcell i (by omega)
  ·simp only [List.mem_cons, List.mem_flatMap, List.mem_range] at hk
   rcases hk with rfl | ⟨i, hi, hk⟩
   ·exact h.row.ge _ rfl
   ·exact (h.ge i hi k hk).1
theorem WinsR.rd {B : Nat} {w : World} {u : Value} {vs : List Value} {G : Nat → List Nat} {ws : List (List ItemV)} (h : WinsR B w u vs G ws) : ItemSSRd w u ws := by
 obtain ⟨S, h, -⟩ := h.full
 exact h.rd
/-- one more window, told with where the row lies then -/
theorem wpList_wiAppendL {w : World} {ops : Array Oper} {rest : List Oper} {o : Oper} {a : Act} {Q : Exit → Act → World → Prop} (hgd : o.guard = none) (s x : Operand)
  (ho : o.op = .call { callee := .builtin .append, args := #[s, x], argTypes := #[33, 33] }) (B : Nat) (v : Value) (vs : List Value) (ya : Option Addr) (yn yc : Nat) (g : Nat) (hs : a.eval s = v) (hx : a.eval x = .slice (some ⟨g, 0, none⟩) 1 1)
  (hv : WiRow B w v vs) (c0 : w.cell? ⟨g, 0, none⟩ = some (.slice ya yn yc)) (hl : vs.length ≤ 1000000) (hB : B ≤ w.heap.size)
  (h : ∀ g' n c w', WiRow B w' (.slice (some ⟨g', 0, none⟩) n c) (vs ++ [.slice ya yn yc]) → n = vs.length + 1 → w.grownBy w' v.ownBlock → (v.ownBlock = some g' ∨ g' = w.heap.size) → wpList Tryz.prog ops Q rest (a.put o.dst (.slice (some ⟨g', 0, none⟩) n c)) w') : wpList Tryz.prog ops Q (o :: rest) a w := by
 obtain ⟨i0, hi, hz0, hz1, hz2⟩ := info_parts1 infoWi
 refine wpList_append_lies w hgd s x 33 ho B 60 i0 _ 1 24 Tryz.underlying33 hi hz0 hz1 hz2 rfl (by decide) v vs.length vs hs hv ⟨g, 0, none⟩ 1 1 [.slice ya yn yc] hx rfl (news_wi c0) (by intro u hu; simp at hu; rw [hu]; rfl) (by decide) (by unfold maxLen; omega) (by omega) hB w.heap.size rfl ?_
 intro g' cap w' h2 h3 h4 h5
 refine h g' _ cap w' ?_ rfl h3 h4
 unfold WiRow
 rw [List.length_append]
 exact h2
end Go.Proofs.YtknkdbfgfcgkiaaGreatDoor

set_option linter.unusedVariables false
namespace Go.Proofs.YtknkdbfgfcgkiaaGreatDoor
open Go.RowKit Go.Maps

set_option maxHeartbeats 1600000 in
theorem slot_any (w : World) (g st at' : Nat) (h : w.cell? ⟨g, 8, none⟩ = some (.int .i64 (st : Int))) (h0 : st < 4) (h1 : at' ≤ 4) :
  Calls Tryz.prog 121 #[.pointer (some ⟨g, 0, none⟩), .int .i64 (at' : Int)] w fun e w' => e = .returned (.int .i64 (((st + at') % 4 : Nat) : Int)) ∧ w' = w := by
 have ht : Int.tmod ((st : Int) + (at' : Int)) 4 = (((st + at') % 4 : Nat) : Int) := by rw [Int.tmod_eq_emod_of_nonneg (by omega)]; omega
 go_enter Tryz.func121, Tryz.ntmps121
 go_wp2_with fail
 go_ret
 exact ⟨by simp, rfl⟩
end Go.Proofs.YtknkdbfgfcgkiaaGreatDoor

set_option linter.unusedVariables false
namespace Go.Proofs.YtknkdbfgfcgkiaaGreatDoor
open Go.RowKit Go.Maps Go.Shelf

structure Keep (n₀ : Nat) (S : List Nat) (w w' : World) : Prop where
 size : w.heap.size ≤ w'.heap.size
 block : ∀ k, k < n₀ → k ∉ S → w'.heap[k]? = w.heap[k]?
theorem Keep.refl (n₀ : Nat) (S : List Nat) (w : World) : Keep n₀ S w w := ⟨Nat.le_refl _, fun _ _ _ => rfl⟩
theorem Keep.trans {n₀ : Nat} {S : List Nat} {a b c : World} (h : Keep n₀ S a b) (k : Keep n₀ S b c) : Keep n₀ S a c := ⟨Nat.le_trans h.size k.size, fun i hi hS => (k.block i hi hS).trans (h.block i hi hS)⟩
theorem Keep.of_below {n₀ : Nat} {S : List Nat} {a b : World} (h : Below n₀ a b) : Keep n₀ S a b := ⟨h.size, fun k hk _ => h.block k hk⟩
theorem Keep.cell {n₀ : Nat} {S : List Nat} {a b : World} (h : Keep n₀ S a b) {g i : Nat} (hg : g < n₀) (hS : g ∉ S) : b.cell? ⟨g, i, none⟩ = a.cell? ⟨g, i, none⟩ := World.cell?_of_block (w := a) (a := ⟨g, i, none⟩) (h.block g hg hS)
theorem Keep.alloc {n₀ : Nat} {S : List Nat} {a b : World} (h : Keep n₀ S a b) (hn : n₀ ≤ b.heap.size) (o : Obj) : Keep n₀ S a (b.alloc o) := h.trans (Keep.of_below ((Below.refl _ _).alloc hn o))
theorem Keep.setCell {n₀ : Nat} {S : List Nat} {a b : World} (h : Keep n₀ S a b) {g : Nat} (hg : g ∈ S ∨ n₀ ≤ g) (i : Nat) (v : Value) : Keep n₀ S a (b.setCell ⟨g, i, none⟩ v) :=
 h.trans ⟨by simp, fun k hk hS => Below.heap_setCell b ⟨g, i, none⟩ v k (fun e => by subst e; exact hg.elim hS (fun e => by omega))⟩
theorem keepK_t {n₀ : Nat} {S : List Nat} {A B C : World} (h : Keep n₀ S A B) (k : Keep n₀ S B C) : Keep n₀ S A C := h.trans k
theorem keepK_b {w : World} {n₀ : Nat} {S : List Nat} (hn : n₀ ≤ w.heap.size) (W : World) (l : Nat) (o o' : Obj) (hl : w.heap.size ≤ l) (h : W.heap[l]? = some o) (hc : o.isCells = false) (hw : o.isWalk = false) : Keep n₀ S W (W.putObj l o') :=
 ⟨by simp, fun k hk _ => World.putObj_heap_other (fun e => by omega)⟩
end Go.Proofs.YtknkdbfgfcgkiaaGreatDoor
