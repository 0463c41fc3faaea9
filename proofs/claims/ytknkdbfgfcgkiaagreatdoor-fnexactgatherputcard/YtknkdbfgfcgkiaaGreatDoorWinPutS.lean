/-
  WindowPut of the specification. (Made by wip/mkwinput.py.)
-/
import Derived.Test.YtknkdbfgfcgkiaaGreatDoorWinPutI
set_option linter.unusedVariables false
namespace Go.Proofs.YtknkdbfgfcgkiaaGreatDoor
open Go.RowKit Go.Maps Go.Deep

/-- items that may be read, and a number, are handed back -/
def RetPutQ (ns : List ItemV) (it : ItemV) (w : World) (e : Ending) (w' : World) : Prop := ∃ v xs, e = .returned (.tuple #[v, .int .i64 (putI ns it)]) ∧ Hid (ItRow w.heap.size w' v xs ∧ ItsAre w.heap.size w' xs (putV ns it)) ∧ Below w.heap.size w w'
theorem l14Items_none (w : World) (a : Option Addr) (cap : Nat) : Calls Tryz.prog 57 #[.slice a 0 cap] w fun e w' => e = .returned (.slice none 0 0) ∧ w' = w := by
 go_enter Tryz.func57, Tryz.ntmps57
 go_wp2
 refine wp_loop_rounds 1 ?_
 rw [rounds_succ]
 go_wp2
 go_ret
 exact ⟨rfl, rfl⟩
theorem its_snoc {B : Nat} {W W' : World} {xs : List (Int × Value)} {ns : List ItemV} {it : ItemV} {y : Value} (h : ItsAre B W xs ns) (far : ∀ {u : Value} {q : List MarkV}, MkRow B W u q → MkRow B W' u q) (hy : MkRow B W y it.a1) : ItsAre B W' (xs ++ [(it.a0, y)]) (ns ++ [it]) := by
 have hlen := h.1
 refine ⟨by simp [hlen], fun i h1 h2 => ?_⟩
 by_cases hi : i < xs.length
 ·rw [List.getElem_append_left hi, List.getElem_append_left (by rw [← hlen]; exact hi)]
  exact ⟨(h.2 i hi (by rw [← hlen]; exact hi)).1, far (h.2 i hi (by rw [← hlen]; exact hi)).2⟩
 ·have e : i = xs.length := by rw [List.length_append] at h1; simp at h1; omega
  subst e
  rw [List.getElem_append_right (Nat.le_refl _), List.getElem_append_right (by omega)]
  simp only [Nat.sub_self, hlen, List.getElem_singleton]
  exact ⟨trivial, far hy⟩
theorem put_yes {ns : List ItemV} {it : ItemV} (hw : windowB orderOut ns = true) (h : takeC ns it = 0) : putI ns it = 0 ∧ putV ns it = putN ns it := by simp [putI, putV, hw, h]
theorem put_old {ns : List ItemV} {it : ItemV} (hw : windowB orderOut ns = true) (h : takeC ns it = 2) : putI ns it = 2 ∧ putV ns it = ns := by simp [putI, putV, hw, h]
theorem put_bad {ns : List ItemV} {it : ItemV} (h : windowB orderOut ns = false ∨ itemB it = false) : putI ns it = 1 ∧ putV ns it = [] := by
 rcases h with h | h
 ·simp [putI, putV, h]
 ·have hc : takeC ns it = 1 := by simp [takeC, h]
  simp [putI, putV, hc]
theorem item_parts {it : ItemV} (h : itemB it = true) : mstampB it.a1 = true ∧ it.a1.length ≠ 0 ∧ it.a1 ≠ [] ∧ it.a1.length ≤ 1000000 := by
 simp only [itemB, Bool.and_eq_true, Bool.not_eq_true', decide_eq_false_iff_not] at h
 refine ⟨h.1, h.2, fun e => h.2 (by rw [e]; rfl), ?_⟩
 have := h.1
 simp only [mstampB, Bool.and_eq_true, decide_eq_true_eq] at this
 omega
set_option maxRecDepth 20000 in
set_option maxHeartbeats 6400000 in
theorem specPut_nil (it : ItemV) (a : Option Addr) (cap : Nat) (u : Value) (w : World) (hi : SmallItem it) (hit : itemB it = true) (h' : ItemRd w u it) : Calls Tryz.prog 23 #[.slice a 0 cap, u] w fun e w' => RetPutQ [] it w e w' := by
 have HK := hide (fun W (bW : Below w.heap.size w W) => specWindow_ok [] (.slice a 0 cap) W ⟨by simp, by simp⟩ ⟨_, _, rfl, .inl rfl⟩)
 have hw : windowB orderOut [] = true := by rfl
 rw [hw] at HK
 have HP := hide (put_yes (ns := []) (it := it) hw (by unfold takeC; rw [if_neg (by rw [hit]; simp), if_neg (by simp)]))
 have HLI := hide (fun W => l14Items_none W a cap)
 obtain ⟨hmb, hl0, hne, hlm⟩ := item_parts hit
 obtain ⟨u1, rfl, hm⟩ := h'
 have HSO := hide (fun W (b : Below w.heap.size w W) => specStampOk_any it.a1 u1 W hi.2 (hm.up b))
 rw [hmb] at HSO
 have HMK := hide (fun W (b : Below w.heap.size w W) => l14Marks_any it.a1 u1 W hne hlm (hm.up b))
 obtain ⟨ua, uc, rfl⟩ := hm.len
 clear hm hi hit hmb hne hw
 have X0 := hide (boxF_new w [.int .i64 it.a0, .slice ua it.a1.length uc] 44)
 have hlz : ((it.a1.length : Int) == 0) = false := by rw [beq_eq_false_iff_ne]; omega
 go_enter Tryz.func23, Tryz.ntmps23
 go_wp2_with fail
 refine (unhide HK _ (by go_grown)).mono ?_
 rintro e w1 ⟨rfl, b1⟩
 have X1 := hide ((unhide X0).up b1)
 have B1 := hide (show Below w.heap.size w w1 from Below.trans (by go_grown) (b1.mono (by simp)))
 clear b1 X0
 have y0 := (unhide X1).1.2 0 _ rfl
 have y1 := (unhide X1).1.2 1 _ rfl
 go_wp2_with fail
 refine (unhide HSO _ (unhide B1)).mono ?_
 rintro e w2 ⟨rfl, b2⟩
 have X2 := hide ((unhide X1).up b2)
 have B2 := hide ((unhide B1).trans (b2.mono (unhide B1).size))
 clear b2 X1 y0 y1
 have y0 := (unhide X2).1.2 0 _ rfl
 have y1 := (unhide X2).1.2 1 _ rfl
 go_wp2_with fail
 refine (unhide HLI _).mono ?_
 rintro e w2' ⟨rfl, hw2⟩
 rw [hw2]
 clear hw2 w2' HK HSO HLI
 go_wp2_with fail
 clear y0 y1
 refine wp_region_later (by kernel_rfl) (by kernel_rfl) ?_
 repeat (go_big_quiet_step (fail))
 refine wpQuiet_nil ?_
 rintro _ ⟨x, rfl⟩
 have BW := hide ((unhide B2).trans (x.bel.mono (unhide B2).size))
 have XW := hide ((unhide X2).up x.bel)
 have XS := hide ((unhide X2).1.1)
 generalize x.to = W0 at *
 clear B1 X2
 go_wp2_with fail
 obtain ⟨xs, hxs⟩ : ∃ xs : List (Int × Value), xs = [] := ⟨[], rfl⟩
 obtain ⟨ns, hns⟩ : ∃ ns : List ItemV, ns = [] := ⟨[], rfl⟩
 have HXL := hide (show xs.length = 0 by rw [hxs]; rfl)
 have RW := hide (show ItRow w.heap.size W0 (.slice none 0 0) xs by rw [hxs]; exact ItRow.nil _ _)
 have IW := hide (show ItsAre w.heap.size W0 xs ns by rw [hxs, hns]; exact ⟨rfl, fun i h => by simp at h⟩)
 have RG := hide (show ∀ g, (Value.slice none 0 0).ownBlock = some g → w.heap.size < g from fun g hg => by simp [Value.ownBlock] at hg)
 clear hxs
 have HS := hide (show ∀ X, Below W0.heap.size W0 X → X.cell? ⟨w.heap.size, 0, none⟩ = some (.int .i64 it.a0) ∧ X.cell? ⟨w.heap.size, 1, none⟩ = some (.slice ua it.a1.length uc) from fun X bX => ⟨((unhide XW).up bX).1.2 0 _ rfl, ((unhide XW).up bX).1.2 1 _ rfl⟩)
 have BD := hide (show Below W0.heap.size W0 W0.drew from (Below.refl _ _).drew)
 have hS := unhide HS _ (unhide BD)
 refine wp_region_held_drew (S := fun X : World => X.cell? ⟨w.heap.size, 0, none⟩ = some (.int .i64 it.a0) ∧ X.cell? ⟨w.heap.size, 1, none⟩ = some (.slice ua it.a1.length uc)) (by kernel_rfl) hS ?_
 clear hS
 intro hS
 have BW1 := hide ((unhide BW).trans ((unhide BD).mono (unhide BW).size))
 have RW1 := hide (show ItRow w.heap.size W0.drew (.slice none 0 0) xs from (unhide RW).keep (fun _ _ => rfl))
 have IW1 := hide (show ItsAre w.heap.size W0.drew xs ns from ⟨(unhide IW).1, fun i h h' => ⟨((unhide IW).2 i h h').1, ((unhide IW).2 i h h').2.keep (fun _ _ => rfl)⟩⟩)
 generalize W0.drew = W at *
 refine wpAnyH_take (i := 0) (v := .slice none 0 0) rfl (by kernel_rfl) (by kernel_rfl) (by kernel_rfl) (fun _ _ _ h => h) (Or.inl ⟨by rfl, ?_⟩) hS ?_
 ·intro X hX
  obtain ⟨h1, h2⟩ := hX
  clear hS
  go_simp
  try with_reducible rfl
 try simp [Act.put]
 refine wpAnyH_take (i := 1) (v := .pointer (some ⟨w.heap.size, 0, none⟩)) rfl (by kernel_rfl) (by kernel_rfl) (by kernel_rfl) (fun _ _ _ h => h) (Or.inl ⟨by rfl, ?_⟩) hS ?_
 ·intro X hX
  obtain ⟨h1, h2⟩ := hX
  clear hS
  go_simp
  try with_reducible rfl
 try simp [Act.put]
 refine wpAnyH_take (i := 2) (v := .int .i64 it.a0) rfl (by kernel_rfl) (by kernel_rfl) (by kernel_rfl) (fun _ _ _ h => h) (Or.inl ⟨by rfl, ?_⟩) hS ?_
 ·intro X hX
  obtain ⟨h1, h2⟩ := hX
  clear hS
  go_simp
  try with_reducible rfl
 try simp [Act.put]
 refine wpAnyH_take (i := 3) (v := .pointer (some ⟨w.heap.size, 1, none⟩)) rfl (by kernel_rfl) (by kernel_rfl) (by kernel_rfl) (fun _ _ _ h => h) (Or.inl ⟨by rfl, ?_⟩) hS ?_
 ·intro X hX
  obtain ⟨h1, h2⟩ := hX
  clear hS
  go_simp
  try with_reducible rfl
 try simp [Act.put]
 refine wpAnyH_take (i := 4) (v := .slice ua it.a1.length uc) rfl (by kernel_rfl) (by kernel_rfl) (by kernel_rfl) (fun _ _ _ h => h) (Or.inl ⟨by rfl, ?_⟩) hS ?_
 ·intro X hX
  obtain ⟨h1, h2⟩ := hX
  clear hS
  go_simp
  try with_reducible rfl
 try simp [Act.put]
 refine wpAnyH_ready (rs := [5]) (by kernel_rfl) (by simp) ?_
 refine AllReadyH.cons rfl (fun K hK => ?_) AllReadyH.nil
 go_simp
 go_wp2_with (go_at_call 28; refine (unhide HMK _ (unhide BW1)).mono ?_; rintro e w1 ⟨y, rfl, Y1, b1⟩)
 obtain ⟨ya, yc, hy⟩ := MkRow.slice (unhide Y1)
 generalize hyn : it.a1.length = yn at hy
 subst hy
 clear hyn
 have B1 := hide ((unhide BW1).trans (b1.mono (unhide BW1).size))
 have R1 := hide ((unhide RW1).up b1)
 have I1 := hide (show ItsAre w.heap.size w1 xs ns from ⟨(unhide IW1).1, fun i h h' => ⟨((unhide IW1).2 i h h').1, ((unhide IW1).2 i h h').2.up b1⟩⟩)
 have YW := hide (show MkRow w.heap.size w1 (.slice ya yn yc) it.a1 from MkRow.mono (unhide Y1) (unhide BW1).size)
 have bA : Below w1.heap.size w1 (w1.alloc (.cells #[.int .i64 it.a0, .slice ya yn yc] 44)) := (Below.refl _ _).alloc (Nat.le_refl _) _
 have R2 := hide ((unhide R1).up bA)
 have I2 := hide (show ItsAre w.heap.size (w1.alloc (.cells #[.int .i64 it.a0, .slice ya yn yc] 44)) xs ns from ⟨(unhide I1).1, fun i h h' => ⟨((unhide I1).2 i h h').1, ((unhide I1).2 i h h').2.up bA⟩⟩)
 have Y2 := hide (MkRow.up (unhide YW) bA)
 have B2 := hide ((unhide B1).trans (bA.mono (unhide B1).size))
 have BB1 := hide ((unhide BD).trans (b1.mono (unhide BD).size))
 have BB2 := hide ((unhide BB1).trans (bA.mono (unhide BB1).size))
 have ca : (w1.alloc (.cells #[.int .i64 it.a0, .slice ya yn yc] 44)).cell? ⟨w1.heap.size, 0, none⟩ = some (.int .i64 it.a0) := World.cell?_alloc_at _ _ _ _ rfl
 have cb : (w1.alloc (.cells #[.int .i64 it.a0, .slice ya yn yc] 44)).cell? ⟨w1.heap.size, 1, none⟩ = some (.slice ya yn yc) := World.cell?_alloc_at _ _ _ _ rfl
 refine hK.out _ _ (unhide HS _ (unhide BB1)) ?_
 clear hK K
 intro hS
 try simp [Act.put]
 clear b1 bA
 refine wpAnyH_ready (rs := [6]) (by kernel_rfl) (by simp) ?_
 refine AllReadyH.cons rfl (fun K hK => ?_) AllReadyH.nil
 go_simp
 refine hK.out _ _ (hS) ?_
 clear hK K
 intro hS
 try simp [Act.put]
 refine wpAnyH_ready (rs := [7]) (by kernel_rfl) (by simp) ?_
 refine AllReadyH.cons rfl (fun K hK => ?_) AllReadyH.nil
 go_simp
 refine hK.out _ _ (unhide HS _ (unhide BB2)) ?_
 clear hK K
 intro hS
 try simp [Act.put]
 refine wpAnyH_ready (rs := [8]) (by kernel_rfl) (by simp) ?_
 refine AllReadyH.cons rfl (fun K hK => ?_) AllReadyH.nil
 obtain ⟨i0, hi, hz0, hz1, hz2⟩ := info_parts1 infoItem
 refine step_append_lies _ (by rfl) (.tmp 39) (.tmp 46) 60 (by rfl) w.heap.size 44 i0 _ 2 32 Tryz.underlying60 hi hz0 hz1 hz2 rfl (by decide) (.slice none 0 0) 0 (itCells xs) (by rfl) (by have h := unhide R2; unfold ItRow at h; rw [unhide HXL] at h; exact h) ⟨w1.heap.size, 0, none⟩ 1 1 [.int .i64 it.a0, .slice ya yn yc] (by rfl) rfl (news_item ca cb) (by intro u hu; simp at hu; rcases hu with rfl | rfl <;> rfl) (by decide) (by unfold maxLen; omega) (by omega) (unhide B2).size _ rfl ?_
 intro g2 c2 w3 hown hgrow hor hlt3
 have R3 := hide (show ItRow w.heap.size w3 (.slice (some ⟨g2, 0, none⟩) (0 + 1) c2) (xs ++ [(it.a0, .slice ya yn yc)]) by
  unfold ItRow
  rw [itCells_snoc, List.length_append, unhide HXL]
  exact hown)
 have B3 := hide ((unhide B2).grown hgrow (unhide B2).size (fun y hy => (unhide R2).ge y hy))
 have I3 := hide (show ItsAre w.heap.size w3 (xs ++ [(it.a0, .slice ya yn yc)]) (ns ++ [it]) by
  have far : ∀ {u : Value} {q : List MarkV}, MkRow w.heap.size (w1.alloc (.cells #[.int .i64 it.a0, .slice ya yn yc] 44)) u q → MkRow w.heap.size w3 u q := fun {u q} h => MkRow.keep h (fun g hg => hgrow.block g (MkRow.lt h g hg) (fun e => ItRow.apart (unhide R2) h g hg e.symm))
  exact its_snoc (unhide I2) far (unhide Y2))
 have XB := hide (show ∀ i, w3.cell? ⟨w.heap.size, i, none⟩ = (w1.alloc (.cells #[.int .i64 it.a0, .slice ya yn yc] 44)).cell? ⟨w.heap.size, i, none⟩ from fun i => World.cell?_of_block (w := w1.alloc (.cells #[.int .i64 it.a0, .slice ya yn yc] 44)) (a := ⟨w.heap.size, i, none⟩) (show w3.heap[w.heap.size]? = _ from hgrow.block w.heap.size (by have h1 : w.heap.size < W0.heap.size := (unhide XW).1.1; have := (unhide BB2).size; omega) (fun e => by have := unhide RG _ e.symm; omega)))
 have hS3 := unhide HS _ (unhide BB2)
 refine hK.out _ _ (⟨(unhide XB 0).trans hS3.1, (unhide XB 1).trans hS3.2⟩) ?_
 clear hK K
 intro hS
 try simp [Act.put]
 clear hown hgrow hor ca cb hS3
 refine wpAnyH_ready (rs := [9]) (by kernel_rfl) (by simp) ?_
 refine AllReadyH.cons rfl (fun K hK => ?_) AllReadyH.nil
 go_simp
 refine hK.out _ _ (hS) ?_
 clear hK K
 intro hS
 try simp [Act.put]
 refine wpAnyH_done (by kernel_rfl) ?_ _
 clear hS
 have HV := hide (show putN [] it = ns ++ [it] by rw [hns]; rfl)
 clear hns
 go_wp2_with fail
 refine bodyPost_ret (v := .tuple #[.slice (some ⟨g2, 0, none⟩) (0 + 1) c2, .int .i64 0]) (by simp [results, Tryz.results23, go_sem]) rfl ?_
 exact ⟨_, _, by rw [(unhide HP).1], by rw [(unhide HP).2, unhide HV]; exact hide ⟨unhide R3, unhide I3⟩, unhide B3⟩
theorem ItRow.mono {B B' : Nat} {w : World} {v : Value} {xs : List (Int × Value)} (h : ItRow B w v xs) (hB : B' ≤ B) : ItRow B' w v xs := by
 refine ⟨h.1, ?_⟩
 rcases h.2 with h0 | ⟨g, cap, cur, e, hb, r⟩
 ·exact .inl h0
 ·exact .inr ⟨g, cap, cur, e, Nat.le_trans hB hb, r⟩
theorem ItsAre.mono {B B' : Nat} {w : World} {xs : List (Int × Value)} {ns : List ItemV} (h : ItsAre B w xs ns) (hB : B' ≤ B) : ItsAre B' w xs ns := ⟨h.1, fun i h1 h2 => ⟨(h.2 i h1 h2).1, (h.2 i h1 h2).2.mono hB⟩⟩
theorem ItsAre.up {B : Nat} {w w' : World} {xs : List (Int × Value)} {ns : List ItemV} (h : ItsAre B w xs ns) (hb : Below w.heap.size w w') : ItsAre B w' xs ns := ⟨h.1, fun i h1 h2 => ⟨(h.2 i h1 h2).1, (h.2 i h1 h2).2.up hb⟩⟩
theorem ItemAt.drop {w : World} {b off k : Nat} {ns : List ItemV} (h : ItemAt w b off ns) : ItemAt w b (off + k * 2) (ns.drop k) := by
 intro i hi
 have := h (k + i) (by simp at hi; omega)
 simp only [List.getElem_drop]
 rw [show off + k * 2 + i * 2 = off + (k + i) * 2 by omega]
 exact this
theorem ItRow.at0 {B : Nat} {w : World} {g n c : Nat} {xs : List (Int × Value)} {ns : List ItemV} (h : ItRow B w (.slice (some ⟨g, 0, none⟩) n c) xs) (hx : ItsAre B w xs ns) (hn : ns ≠ []) : g < w.heap.size ∧ ItemAt w g 0 ns ∧ n = ns.length := by
 obtain ⟨a, c', e, h1⟩ := h.rd hx
 simp only [Value.slice.injEq] at e
 obtain ⟨rfl, rfl, _⟩ := e
 rcases h1 with h1 | ⟨b, off, e, hb, h1⟩
 ·exact absurd h1 hn
 ·simp only [Option.some.injEq, Addr.mk.injEq, and_true] at e
  obtain ⟨rfl, rfl⟩ := e
  exact ⟨hb, h1, rfl⟩
set_option maxRecDepth 20000 in
set_option maxHeartbeats 6400000 in
theorem specPut_row (ns : List ItemV) (it : ItemV) (b off cap : Nat) (u : Value) (w : World) (hs : SmallItemS ns) (hi : SmallItem it) (hn : ns ≠ []) (hw : windowB orderOut ns = true) (hit : itemB it = true) (hb : b < w.heap.size) (hc : ItemAt w b off ns) (h' : ItemRd w u it) :
  Calls Tryz.prog 23 #[.slice (some ⟨b, off, none⟩) ns.length cap, u] w fun e w' => RetPutQ ns it w e w' := by
 have HK := hide (fun W (bW : Below w.heap.size w W) => specWindow_ok ns (.slice (some ⟨b, off, none⟩) ns.length cap) W hs ⟨_, _, rfl, .inr ⟨b, off, rfl, Nat.lt_of_lt_of_le hb bW.size, hc.up hb bW⟩⟩)
 rw [hw] at HK
 have h4 := (win_item hw).1
 have HWI := hide (show ∀ x ∈ ns, x.a1 ≠ [] ∧ x.a1.length ≤ 1000000 from fun x hx => by
  obtain ⟨j, hj, rfl⟩ := List.getElem_of_mem hx
  have := (win_item hw).2 j hj
  exact ⟨this.1, by omega⟩)
 have HLI := hide (fun W (bW : Below w.heap.size w W) => l14Items_row W b off cap ns (by omega) (unhide HWI) (Nat.lt_of_lt_of_le hb bW.size) (hc.up hb bW))
 obtain ⟨hmb, hl0, hne, hlm⟩ := item_parts hit
 obtain ⟨u1, rfl, hm⟩ := h'
 have HSO := hide (fun W (b : Below w.heap.size w W) => specStampOk_any it.a1 u1 W hi.2 (hm.up b))
 rw [hmb] at HSO
 have HMK := hide (fun W (b : Below w.heap.size w W) => l14Marks_any it.a1 u1 W hne hlm (hm.up b))
 have hk := last_split hn
 obtain ⟨c0, v1, c1, hv1⟩ := hc (ns.length - 1) hk
 have HAB := hide (fun W (bb : Below w.heap.size w W) => l14Above_any orderOut ordSaid ns[ns.length - 1].a0 it.a0 ns[ns.length - 1].a1 v1 it.a1 u1 W (hs.2 _ (List.getElem_mem hk)).2 hi.2 (hv1.up bb) (hm.up bb))
 have hlM : lastM ns = ns[ns.length - 1].a1 := by
  unfold lastM
  rw [List.getLast?_eq_getElem?, List.getElem?_eq_getElem hk]
  rfl
 have HT0 := hide (show aboveB orderOut ns[ns.length - 1].a1 it.a1 = true → takeC ns it = 0 from fun h => by unfold takeC; rw [if_neg (by rw [hit]; simp), if_neg (by rw [hlM, h]; simp)])
 have HT2 := hide (show aboveB orderOut ns[ns.length - 1].a1 it.a1 = false → takeC ns it = 2 from fun h => by unfold takeC; rw [if_neg (by rw [hit]; simp), if_pos ⟨hn, by rw [hlM]; exact h⟩])
 have HCC := hide (show ∀ W, Below w.heap.size w W → W.cell? ⟨b, off + (ns.length - 1) * 2, none⟩ = some (.int .i64 ns[ns.length - 1].a0) ∧ W.cell? ⟨b, off + (ns.length - 1) * 2 + 1, none⟩ = some v1 from fun W bW => ⟨(bW.cell (by exact hb)).trans c0, (bW.cell (by exact hb)).trans c1⟩)
 obtain ⟨ua, uc, rfl⟩ := hm.len
 obtain ⟨va, vn, vc, rfl⟩ := hv1.form
 have HW := hide hw
 have HNN := hide hn
 clear hm hi hit hmb hne hc c0 c1 hv1 hlM hs hw
 generalize aboveB orderOut ns[ns.length - 1].a1 it.a1 = ab at *
 generalize ns[ns.length - 1].a0 = z0 at *
 obtain ⟨m, hm1⟩ : ∃ m, ns.length = m + 1 := ⟨ns.length - 1, by omega⟩
 have HML := hide hm1
 rw [hm1, Nat.add_sub_cancel] at HCC
 rw [hm1] at HK HLI ⊢
 have h4m : m ≤ 3 := by omega
 clear hk hm1 hn h4
 have X0 := hide (boxF_new w [.int .i64 it.a0, .slice ua it.a1.length uc] 44)
 have hlz : ((it.a1.length : Int) == 0) = false := by rw [beq_eq_false_iff_ne]; omega
 have hms : ((m + 1 : Nat) : Int) - 1 = (m : Int) := by omega
 go_enter Tryz.func23, Tryz.ntmps23
 go_wp2_with fail
 refine (unhide HK _ (by go_grown)).mono ?_
 rintro e w1 ⟨rfl, b1⟩
 have X1 := hide ((unhide X0).up b1)
 have B1 := hide (show Below w.heap.size w w1 from Below.trans (by go_grown) (b1.mono (by simp)))
 clear b1 X0
 have y0 := (unhide X1).1.2 0 _ rfl
 have y1 := (unhide X1).1.2 1 _ rfl
 go_wp2_with fail
 refine (unhide HSO _ (unhide B1)).mono ?_
 rintro e w2 ⟨rfl, b2⟩
 have X2 := hide ((unhide X1).up b2)
 have B2 := hide ((unhide B1).trans (b2.mono (unhide B1).size))
 clear b2 X1 y0 y1
 have y0 := (unhide X2).1.2 0 _ rfl
 have y1 := (unhide X2).1.2 1 _ rfl
 have hwz : w.heap.size < w2.heap.size := (unhide X2).1.1
 go_wp2_with fail
 refine (unhide HLI _ (unhide B2)).mono ?_
 rintro e w3 ⟨v, xs, rfl, R3, b3⟩
 have X3 := hide ((unhide X2).up b3)
 have B3 := hide ((unhide B2).trans (b3.mono (unhide B2).size))
 have RG := hide (show ∀ g, v.ownBlock = some g → w.heap.size < g from fun g hg => Nat.lt_of_lt_of_le hwz ((unhide R3).1.ge g hg))
 have HXL := hide (show xs.length = m + 1 by rw [(unhide R3).2.1]; exact unhide HML)
 obtain ⟨av, cv, hv⟩ := (unhide R3).1.slice
 rw [unhide HXL] at hv
 subst hv
 have RW2 := hide ((unhide R3).1.mono (B' := w.heap.size) (by omega))
 have IW2 := hide ((unhide R3).2.mono (B' := w.heap.size) (by omega))
 clear b3 R3 X2 y0 y1 HK HSO HLI B1 B2
 have Y0 := hide (fun (x : LaterW w3) => show x.to.cell? ⟨w.heap.size, 0, none⟩ = some (.int .i64 it.a0) from x.cell ((unhide X3).1.2 0 _ rfl))
 have Y1 := hide (fun (x : LaterW w3) => show x.to.cell? ⟨w.heap.size, 1, none⟩ = some (.slice ua it.a1.length uc) from x.cell ((unhide X3).1.2 1 _ rfl))
 have D0 := hide (fun (x : LaterW w3) => (unhide HCC x.to ((unhide B3).trans (x.bel.mono (unhide B3).size))).1)
 have D1 := hide (fun (x : LaterW w3) => (unhide HCC x.to ((unhide B3).trans (x.bel.mono (unhide B3).size))).2)
 have HAB2 := hide (fun (x : LaterW w3) => unhide HAB x.to ((unhide B3).trans (x.bel.mono (unhide B3).size)))
 clear HCC HAB
 have y0 := unhide Y0
 have y1 := unhide Y1
 have d0 := unhide D0
 have d1 := unhide D1
 go_wp2_with fail
 refine wp_region_later (by kernel_rfl) (by kernel_rfl) ?_
 repeat (go_big_quiet_step ((go_at_call 58; exact quiet_ret (unhide HAB2 _))))
 refine wpQuiet_nil ?_
 rintro _ ⟨x, rfl⟩
 clear y0 y1 d0 d1 Y0 Y1 D0 D1 HAB2
 have BW := hide ((unhide B3).trans (x.bel.mono (unhide B3).size))
 have XW := hide ((unhide X3).up x.bel)
 have RW := hide ((unhide RW2).up x.bel)
 have IW := hide ((unhide IW2).up x.bel)
 clear RW2 IW2 X3 B3
 generalize x.to = W0 at *
 cases ab
 ·have HP := hide (put_old (unhide HW) (unhide HT2 rfl))
  clear HT0 HT2
  go_wp2_with fail
  refine bodyPost_ret (v := .tuple #[.slice av (m + 1) cv, .int .i64 2]) (by simp [results, Tryz.results23, go_sem]) rfl ?_
  exact ⟨_, xs, by rw [(unhide HP).1], by rw [(unhide HP).2]; exact hide ⟨unhide RW, unhide IW⟩, unhide BW⟩
 ·have HP := hide (put_yes (unhide HW) (unhide HT0 rfl))
  clear HT0 HT2
  go_wp2_with fail
  have HS := hide (show ∀ X, Below W0.heap.size W0 X → X.cell? ⟨w.heap.size, 0, none⟩ = some (.int .i64 it.a0) ∧ X.cell? ⟨w.heap.size, 1, none⟩ = some (.slice ua it.a1.length uc) from fun X bX => ⟨((unhide XW).up bX).1.2 0 _ rfl, ((unhide XW).up bX).1.2 1 _ rfl⟩)
  have BD := hide (show Below W0.heap.size W0 W0.drew from (Below.refl _ _).drew)
  have hS := unhide HS _ (unhide BD)
  refine wp_region_held_drew (S := fun X : World => X.cell? ⟨w.heap.size, 0, none⟩ = some (.int .i64 it.a0) ∧ X.cell? ⟨w.heap.size, 1, none⟩ = some (.slice ua it.a1.length uc)) (by kernel_rfl) hS ?_
  clear hS
  intro hS
  have BW1 := hide ((unhide BW).trans ((unhide BD).mono (unhide BW).size))
  have RW1 := hide (show ItRow w.heap.size W0.drew (.slice av (m + 1) cv) xs from (unhide RW).keep (fun _ _ => rfl))
  have IW1 := hide (show ItsAre w.heap.size W0.drew xs ns from ⟨(unhide IW).1, fun i h h' => ⟨((unhide IW).2 i h h').1, ((unhide IW).2 i h h').2.keep (fun _ _ => rfl)⟩⟩)
  generalize W0.drew = W at *
  refine wpAnyH_take (i := 0) (v := .slice av (m + 1) cv) rfl (by kernel_rfl) (by kernel_rfl) (by kernel_rfl) (fun _ _ _ h => h) (Or.inl ⟨by rfl, ?_⟩) hS ?_
  ·intro X hX
   obtain ⟨h1, h2⟩ := hX
   clear hS
   go_simp
   try with_reducible rfl
  try simp [Act.put]
  refine wpAnyH_take (i := 1) (v := .pointer (some ⟨w.heap.size, 0, none⟩)) rfl (by kernel_rfl) (by kernel_rfl) (by kernel_rfl) (fun _ _ _ h => h) (Or.inl ⟨by rfl, ?_⟩) hS ?_
  ·intro X hX
   obtain ⟨h1, h2⟩ := hX
   clear hS
   go_simp
   try with_reducible rfl
  try simp [Act.put]
  refine wpAnyH_take (i := 2) (v := .int .i64 it.a0) rfl (by kernel_rfl) (by kernel_rfl) (by kernel_rfl) (fun _ _ _ h => h) (Or.inl ⟨by rfl, ?_⟩) hS ?_
  ·intro X hX
   obtain ⟨h1, h2⟩ := hX
   clear hS
   go_simp
   try with_reducible rfl
  try simp [Act.put]
  refine wpAnyH_take (i := 3) (v := .pointer (some ⟨w.heap.size, 1, none⟩)) rfl (by kernel_rfl) (by kernel_rfl) (by kernel_rfl) (fun _ _ _ h => h) (Or.inl ⟨by rfl, ?_⟩) hS ?_
  ·intro X hX
   obtain ⟨h1, h2⟩ := hX
   clear hS
   go_simp
   try with_reducible rfl
  try simp [Act.put]
  refine wpAnyH_take (i := 4) (v := .slice ua it.a1.length uc) rfl (by kernel_rfl) (by kernel_rfl) (by kernel_rfl) (fun _ _ _ h => h) (Or.inl ⟨by rfl, ?_⟩) hS ?_
  ·intro X hX
   obtain ⟨h1, h2⟩ := hX
   clear hS
   go_simp
   try with_reducible rfl
  try simp [Act.put]
  refine wpAnyH_ready (rs := [5]) (by kernel_rfl) (by simp) ?_
  refine AllReadyH.cons rfl (fun K hK => ?_) AllReadyH.nil
  go_simp
  go_wp2_with (go_at_call 28; refine (unhide HMK _ (unhide BW1)).mono ?_; rintro e w1 ⟨y, rfl, Y1, b1⟩)
  obtain ⟨ya, yc, hy⟩ := MkRow.slice (unhide Y1)
  generalize hyn : it.a1.length = yn at hy
  subst hy
  clear hyn
  have B1 := hide ((unhide BW1).trans (b1.mono (unhide BW1).size))
  have R1 := hide ((unhide RW1).up b1)
  have I1 := hide (show ItsAre w.heap.size w1 xs ns from ⟨(unhide IW1).1, fun i h h' => ⟨((unhide IW1).2 i h h').1, ((unhide IW1).2 i h h').2.up b1⟩⟩)
  have YW := hide (show MkRow w.heap.size w1 (.slice ya yn yc) it.a1 from MkRow.mono (unhide Y1) (unhide BW1).size)
  have bA : Below w1.heap.size w1 (w1.alloc (.cells #[.int .i64 it.a0, .slice ya yn yc] 44)) := (Below.refl _ _).alloc (Nat.le_refl _) _
  have R2 := hide ((unhide R1).up bA)
  have I2 := hide (show ItsAre w.heap.size (w1.alloc (.cells #[.int .i64 it.a0, .slice ya yn yc] 44)) xs ns from ⟨(unhide I1).1, fun i h h' => ⟨((unhide I1).2 i h h').1, ((unhide I1).2 i h h').2.up bA⟩⟩)
  have Y2 := hide (MkRow.up (unhide YW) bA)
  have B2 := hide ((unhide B1).trans (bA.mono (unhide B1).size))
  have BB1 := hide ((unhide BD).trans (b1.mono (unhide BD).size))
  have BB2 := hide ((unhide BB1).trans (bA.mono (unhide BB1).size))
  have ca : (w1.alloc (.cells #[.int .i64 it.a0, .slice ya yn yc] 44)).cell? ⟨w1.heap.size, 0, none⟩ = some (.int .i64 it.a0) := World.cell?_alloc_at _ _ _ _ rfl
  have cb : (w1.alloc (.cells #[.int .i64 it.a0, .slice ya yn yc] 44)).cell? ⟨w1.heap.size, 1, none⟩ = some (.slice ya yn yc) := World.cell?_alloc_at _ _ _ _ rfl
  refine hK.out _ _ (unhide HS _ (unhide BB1)) ?_
  clear hK K
  intro hS
  try simp [Act.put]
  clear b1 bA
  refine wpAnyH_ready (rs := [6]) (by kernel_rfl) (by simp) ?_
  refine AllReadyH.cons rfl (fun K hK => ?_) AllReadyH.nil
  go_simp
  refine hK.out _ _ (hS) ?_
  clear hK K
  intro hS
  try simp [Act.put]
  refine wpAnyH_ready (rs := [7]) (by kernel_rfl) (by simp) ?_
  refine AllReadyH.cons rfl (fun K hK => ?_) AllReadyH.nil
  go_simp
  refine hK.out _ _ (unhide HS _ (unhide BB2)) ?_
  clear hK K
  intro hS
  try simp [Act.put]
  refine wpAnyH_ready (rs := [8]) (by kernel_rfl) (by simp) ?_
  refine AllReadyH.cons rfl (fun K hK => ?_) AllReadyH.nil
  obtain ⟨i0, hi, hz0, hz1, hz2⟩ := info_parts1 infoItem
  refine step_append_lies _ (by rfl) (.tmp 39) (.tmp 46) 60 (by rfl) w.heap.size 44 i0 _ 2 32 Tryz.underlying60 hi hz0 hz1 hz2 rfl (by decide) (.slice av (m + 1) cv) (m + 1) (itCells xs) (by rfl) (by have h := unhide R2; unfold ItRow at h; rw [unhide HXL] at h; exact h) ⟨w1.heap.size, 0, none⟩ 1 1 [.int .i64 it.a0, .slice ya yn yc] (by rfl) rfl (news_item ca cb) (by intro u hu; simp at hu; rcases hu with rfl | rfl <;> rfl) (by decide) (by unfold maxLen; omega) (by omega) (unhide B2).size _ rfl ?_
  intro g2 c2 w3 hown hgrow hor hlt3
  have R3 := hide (show ItRow w.heap.size w3 (.slice (some ⟨g2, 0, none⟩) ((m + 1) + 1) c2) (xs ++ [(it.a0, .slice ya yn yc)]) by
   unfold ItRow
   rw [itCells_snoc, List.length_append, unhide HXL]
   exact hown)
  have B3 := hide ((unhide B2).grown hgrow (unhide B2).size (fun y hy => (unhide R2).ge y hy))
  have I3 := hide (show ItsAre w.heap.size w3 (xs ++ [(it.a0, .slice ya yn yc)]) (ns ++ [it]) by
   have far : ∀ {u : Value} {q : List MarkV}, MkRow w.heap.size (w1.alloc (.cells #[.int .i64 it.a0, .slice ya yn yc] 44)) u q → MkRow w.heap.size w3 u q := fun {u q} h => MkRow.keep h (fun g hg => hgrow.block g (MkRow.lt h g hg) (fun e => ItRow.apart (unhide R2) h g hg e.symm))
   exact its_snoc (unhide I2) far (unhide Y2))
  have XB := hide (show ∀ i, w3.cell? ⟨w.heap.size, i, none⟩ = (w1.alloc (.cells #[.int .i64 it.a0, .slice ya yn yc] 44)).cell? ⟨w.heap.size, i, none⟩ from fun i => World.cell?_of_block (w := w1.alloc (.cells #[.int .i64 it.a0, .slice ya yn yc] 44)) (a := ⟨w.heap.size, i, none⟩) (show w3.heap[w.heap.size]? = _ from hgrow.block w.heap.size (by have h1 : w.heap.size < W0.heap.size := (unhide XW).1.1; have := (unhide BB2).size; omega) (fun e => by have := unhide RG _ e.symm; omega)))
  have hS3 := unhide HS _ (unhide BB2)
  refine hK.out _ _ (⟨(unhide XB 0).trans hS3.1, (unhide XB 1).trans hS3.2⟩) ?_
  clear hK K
  intro hS
  try simp [Act.put]
  clear hown hgrow hor ca cb hS3
  refine wpAnyH_ready (rs := [9]) (by kernel_rfl) (by simp) ?_
  refine AllReadyH.cons rfl (fun K hK => ?_) AllReadyH.nil
  go_simp
  refine hK.out _ _ (hS) ?_
  clear hK K
  intro hS
  try simp [Act.put]
  refine wpAnyH_done (by kernel_rfl) ?_ _
  clear hS
  by_cases hfull : m = 3
  ·subst hfull
   have HV := hide (show putN ns it = (ns ++ [it]).drop 1 by
    have := unhide HML
    unfold putN
    rw [if_neg (by omega), List.drop_append_of_le_length (by omega)])
   obtain ⟨hg3, ha3, hn3⟩ := (unhide R3).at0 (unhide I3) (by simp)
   have HLI := hide (fun W (bW : Below w3.heap.size w3 W) => l14Items_row W g2 (0 + 1 * 2) (c2 - 1) ((ns ++ [it]).drop 1) (by rw [List.length_drop, ← hn3]; omega) (fun y hy => (List.mem_append.1 (List.mem_of_mem_drop hy)).elim (unhide HWI y) (fun e => by simp at e; subst e; exact ⟨fun e2 => hl0 (by rw [e2]; rfl), hlm⟩)) (Nat.lt_of_lt_of_le hg3 bW.size) ((ha3.drop (k := 1)).up hg3 bW))
   rw [List.length_drop, ← hn3] at HLI
   simp only [Nat.zero_add, Nat.one_mul, Nat.reduceAdd, Nat.reduceSub] at HLI
   have hcap : 5 ≤ c2 := by have h := (unhide R3).cap; rw [List.length_append, unhide HXL] at h; exact h
   clear ha3 hn3
   go_wp2_with fail
   refine (unhide HLI _ (Below.refl _ _)).mono ?_
   rintro e w5 ⟨v5, xs5, rfl, R5, b5⟩
   have B5 := hide ((unhide B3).trans (b5.mono (unhide B3).size))
   have D5 := hide ((unhide R5).1.rd (unhide R5).2)
   obtain ⟨a5, n5, c5, rfl⟩ := (unhide D5).form
   clear b5 D5 HLI
   go_wp2_with fail
   refine bodyPost_ret (v := .tuple #[.slice a5 n5 c5, .int .i64 0]) (by simp [results, Tryz.results23, go_sem]) rfl ?_
   exact ⟨_, xs5, by rw [(unhide HP).1], by rw [(unhide HP).2, unhide HV]; exact hide ⟨(unhide R5).1.mono (unhide B3).size, (unhide R5).2.mono (unhide B3).size⟩, unhide B5⟩
  ·have HV := hide (show putN ns it = ns ++ [it] by
    have := unhide HML
    unfold putN
    rw [if_pos (by omega)])
   have hm4 : ¬ (4 : Int) < ((m + 1 + 1 : Nat) : Int) := by omega
   go_wp2_with fail
   refine bodyPost_ret (v := .tuple #[.slice (some ⟨g2, 0, none⟩) (m + 1 + 1) c2, .int .i64 0]) (by simp [results, Tryz.results23, go_sem]) rfl ?_
   exact ⟨_, _, by rw [(unhide HP).1], by rw [(unhide HP).2, unhide HV]; exact hide ⟨unhide R3, unhide I3⟩, unhide B3⟩
set_option maxRecDepth 20000 in
set_option maxHeartbeats 3200000 in
theorem specPut_bad (ns : List ItemV) (it : ItemV) (v u : Value) (w : World) (hs : SmallItemS ns) (hi : SmallItem it) (h : ItemSRd w v ns) (h' : ItemRd w u it) (hbad : windowB orderOut ns = false ∨ itemB it = false) :
  Calls Tryz.prog 23 #[v, u] w fun e w' => RetPutQ ns it w e w' := by
 have HK := hide (fun W (bW : Below w.heap.size w W) => specWindow_ok ns v W hs (h.up bW))
 have HP := hide (put_bad hbad)
 obtain ⟨u1, rfl, hm⟩ := h'
 have HSO := hide (fun W (b : Below w.heap.size w W) => specStampOk_any it.a1 u1 W hi.2 (hm.up b))
 obtain ⟨ua, uc, rfl⟩ := hm.len
 obtain ⟨a, n, c, rfl⟩ := h.form
 clear h hm hs hi
 have X0 := hide (boxF_new w [.int .i64 it.a0, .slice ua it.a1.length uc] 44)
 have END := hide (show ∀ X, Below w.heap.size w X → RetPutQ ns it w (.returned (.tuple #[.slice none 0 0, .int .i64 1])) X from fun X bX => ⟨_, [], by rw [(unhide HP).1], by rw [(unhide HP).2]; exact hide ⟨ItRow.nil _ _, ⟨rfl, fun i h => by simp at h⟩⟩, bX⟩)
 cases hw : windowB orderOut ns
 ·rw [hw] at HK
  clear hbad hw HSO
  go_enter Tryz.func23, Tryz.ntmps23
  go_wp2_with fail
  refine (unhide HK _ (by go_grown)).mono ?_
  rintro e w1 ⟨rfl, b1⟩
  have B1 := hide (show Below w.heap.size w w1 from Below.trans (by go_grown) (b1.mono (by simp)))
  clear b1 X0
  go_wp2_with fail
  refine bodyPost_ret (v := .tuple #[.slice none 0 0, .int .i64 1]) (by simp [results, Tryz.results23, go_sem]) rfl ?_
  exact unhide END _ (unhide B1)
 ·have hit : itemB it = false := hbad.resolve_left (by rw [hw]; simp)
  rw [hw] at HK
  have hor : mstampB it.a1 = false ∨ (mstampB it.a1 = true ∧ it.a1.length = 0) := by
   cases hb : mstampB it.a1
   ·exact .inl rfl
   ·refine .inr ⟨rfl, ?_⟩
    simp [itemB, hb] at hit
    rw [hit]; rfl
  clear hbad hw hit
  rcases hor with hmb | ⟨hmb, hl0⟩
  ·rw [hmb] at HSO
   clear hmb
   go_enter Tryz.func23, Tryz.ntmps23
   go_wp2_with fail
   refine (unhide HK _ (by go_grown)).mono ?_
   rintro e w1 ⟨rfl, b1⟩
   have X1 := hide ((unhide X0).up b1)
   have B1 := hide (show Below w.heap.size w w1 from Below.trans (by go_grown) (b1.mono (by simp)))
   clear b1 X0
   have y0 := (unhide X1).1.2 0 _ rfl
   have y1 := (unhide X1).1.2 1 _ rfl
   go_wp2_with fail
   refine (unhide HSO _ (unhide B1)).mono ?_
   rintro e w2 ⟨rfl, b2⟩
   have B2 := hide ((unhide B1).trans (b2.mono (unhide B1).size))
   clear b2 X1 y0 y1
   go_wp2_with fail
   refine bodyPost_ret (v := .tuple #[.slice none 0 0, .int .i64 1]) (by simp [results, Tryz.results23, go_sem]) rfl ?_
   exact unhide END _ (unhide B2)
  ·rw [hmb] at HSO
   rw [hl0] at HSO X0 ⊢
   clear hmb hl0
   go_enter Tryz.func23, Tryz.ntmps23
   go_wp2_with fail
   refine (unhide HK _ (by go_grown)).mono ?_
   rintro e w1 ⟨rfl, b1⟩
   have X1 := hide ((unhide X0).up b1)
   have B1 := hide (show Below w.heap.size w w1 from Below.trans (by go_grown) (b1.mono (by simp)))
   clear b1 X0
   have y0 := (unhide X1).1.2 0 _ rfl
   have y1 := (unhide X1).1.2 1 _ rfl
   go_wp2_with fail
   refine (unhide HSO _ (unhide B1)).mono ?_
   rintro e w2 ⟨rfl, b2⟩
   have X2 := hide ((unhide X1).up b2)
   have B2 := hide ((unhide B1).trans (b2.mono (unhide B1).size))
   clear b2 X1 y0 y1
   have y0 := (unhide X2).1.2 0 _ rfl
   have y1 := (unhide X2).1.2 1 _ rfl
   go_wp2_with fail
   refine bodyPost_ret (v := .tuple #[.slice none 0 0, .int .i64 1]) (by simp [results, Tryz.results23, go_sem]) rfl ?_
   exact unhide END _ (unhide B2)
theorem specPut_own (ns : List ItemV) (v : Value) (it : ItemV) (u : Value) (w : World) (hs : SmallItemS ns) (hi : SmallItem it) (h : ItemSRd w v ns) (h' : ItemRd w u it) :
  Calls Tryz.prog 23 #[v, u] w fun e w' => RetPutQ ns it w e w' := by
 by_cases hbad : windowB orderOut ns = false ∨ itemB it = false
 ·exact specPut_bad ns it v u w hs hi h h' hbad
 ·have hw : windowB orderOut ns = true := by cases e : windowB orderOut ns <;> simp_all
  have hit : itemB it = true := by cases e : itemB it <;> simp_all
  obtain ⟨a, c, rfl, h⟩ := h
  rcases h with rfl | ⟨b, off, rfl, hb, h⟩
  ·exact specPut_nil it a c u w hi hit h'
  ·by_cases hn : ns = []
   ·subst hn
    exact specPut_nil it _ c u w hi hit h'
   ·exact specPut_row ns it b off c u w hs hi hn hw hit hb h h'
theorem small_put {ns : List ItemV} {it : ItemV} (hs : SmallItemS ns) (hi : SmallItem it) : SmallItemS (putV ns it) := by
 have none : SmallItemS [] := ⟨by simp, by simp⟩
 unfold putV
 split
 ·rename_i hw
  have h4 := (win_item hw).1
  split
  ·exact none
  ·split
   ·unfold putN
    split
    ·refine ⟨by simp; omega, fun x hx => ?_⟩
     rcases List.mem_append.1 hx with h | h
     ·exact hs.2 x h
     ·simp at h; subst h; exact hi
    ·refine ⟨by simp; omega, fun x hx => ?_⟩
     rcases List.mem_append.1 hx with h | h
     ·exact hs.2 x (List.mem_of_mem_drop h)
     ·simp at h; subst h; exact hi
   ·exact hs
 ·exact none
end Go.Proofs.YtknkdbfgfcgkiaaGreatDoor
