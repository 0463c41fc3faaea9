/-
  Choices: which windows may be chosen from, which places are there, which items agree.
-/
/-
  The program's copies of windows: the walk.
-/
/-
  Rows of bytes that one may append to: append of whatever bytes, the empty ones too.
-/
import Derived.Test.YtknkdbfgfcgkiaaGreatDoorMerged4
import Derived.Test.YtknkdbfgfcgkiaaGreatDoorMerged19
import Derived.Test.YtknkdbfgfcgkiaaGreatDoorMerged20
import Derived.Test.YtknkdbfgfcgkiaaGreatDoorMerged11
import Derived.Test.YtknkdbfgfcgkiaaGreatDoorMerged3
import Derived.Laws.OwnMore
import Derived.Deep.AppendLies
import Derived.Handy
set_option linter.unusedVariables false
namespace Go.Proofs.YtknkdbfgfcgkiaaGreatDoor
open Go.RowKit Go.Maps Go.Deep

theorem IntsAt.up {w w' : World} {b off : Nat} {ps : List Int} (h : IntsAt w b off ps) (hb : b < w.heap.size) (hw : Below w.heap.size w w') : IntsAt w' b off ps := h.below hw hb
def winsB (ws : List (List ItemV)) : Bool := decide (1 ≤ ws.length) && decide (ws.length ≤ 6) && ws.all (windowB orderOut)
def placeB (ws : List (List ItemV)) (ps : List Int) (i : Nat) : Bool := decide (0 ≤ ps.getD i 0) && decide (ps.getD i 0 < ((ws.getD i []).length : Int))
def inB (ws : List (List ItemV)) (ps : List Int) : Bool := (List.range ps.length).all (placeB ws ps)
def stampAt (ws : List (List ItemV)) (ps : List Int) (i : Nat) : List MarkV := (((ws.getD i [])[(ps.getD i 0).toNat]?).map (fun x => x.a1)).getD []
def pairB (ws : List (List ItemV)) (ps : List Int) (i k : Nat) : Bool := agreeOut (stampAt ws ps i) (stampAt ws ps k)
def agB (ws : List (List ItemV)) (ps : List Int) : Bool := (List.range ps.length).all fun i => (List.range i).all (pairB ws ps i)
def choiceB (ws : List (List ItemV)) (ps : List Int) : Bool := winsB ws && (decide (ps.length = ws.length) && (inB ws ps && agB ws ps))
theorem winsB_no_len {ws : List (List ItemV)} (h : ws.length < 1 ∨ 6 < ws.length) : winsB ws = false := by
  unfold winsB
  rcases h with h | h
  · rw [show decide (1 ≤ ws.length) = false from decide_eq_false (by omega)]; simp
  · rw [show decide (ws.length ≤ 6) = false from decide_eq_false (by omega)]; simp
theorem winsB_no {ws : List (List ItemV)} {k : Nat} (hk : k < ws.length) (h : windowB orderOut ws[k] = false) : winsB ws = false := by
  unfold winsB
  rw [show ws.all (windowB orderOut) = false by rw [List.all_eq_false]; exact ⟨ws[k], List.getElem_mem hk, by simp [h]⟩]
  simp
theorem winsB_yes {ws : List (List ItemV)} (h1 : 1 ≤ ws.length) (h6 : ws.length ≤ 6) (h : ∀ k (hk : k < ws.length), windowB orderOut ws[k] = true) : winsB ws = true := by
  unfold winsB
  rw [show ws.all (windowB orderOut) = true by rw [List.all_eq_true]; intro x hx; obtain ⟨k, hk, rfl⟩ := List.getElem_of_mem hx; exact h k hk]
  simp [h1, h6]
theorem winsB_len {ws : List (List ItemV)} (h : winsB ws = true) : 1 ≤ ws.length ∧ ws.length ≤ 6 := by
  unfold winsB at h
  simp at h
  exact ⟨by omega, h.1.2⟩
theorem winsB_each {ws : List (List ItemV)} (h : winsB ws = true) : ∀ x ∈ ws, windowB orderOut x = true := by
  unfold winsB at h
  simp at h
  exact h.2
theorem place_no {ws : List (List ItemV)} {ps : List Int} {k : Nat} (hk : k < ps.length) (h : placeB ws ps k = false) : inB ws ps = false := by
  unfold inB
  rw [List.all_eq_false]
  exact ⟨k, List.mem_range.2 hk, by simp [h]⟩
theorem place_yes {ws : List (List ItemV)} {ps : List Int} (h : ∀ k, k < ps.length → placeB ws ps k = true) : inB ws ps = true := by
  unfold inB
  rw [List.all_eq_true]
  exact fun k hk => h k (List.mem_range.1 hk)
theorem in_each {ws : List (List ItemV)} {ps : List Int} (h : inB ws ps = true) {k : Nat} (hk : k < ps.length) : placeB ws ps k = true := by
  unfold inB at h
  rw [List.all_eq_true] at h
  exact h k (List.mem_range.2 hk)
theorem pair_no {ws : List (List ItemV)} {ps : List Int} {i k : Nat} (hi : i < ps.length) (hk : k < i) (h : pairB ws ps i k = false) : agB ws ps = false := by
  unfold agB
  rw [List.all_eq_false]
  refine ⟨i, List.mem_range.2 hi, ?_⟩
  rw [Bool.not_eq_true, List.all_eq_false]
  exact ⟨k, List.mem_range.2 hk, by simp [h]⟩
theorem pair_yes {ws : List (List ItemV)} {ps : List Int} (h : ∀ i k, i < ps.length → k < i → pairB ws ps i k = true) : agB ws ps = true := by
  unfold agB
  rw [List.all_eq_true]
  intro i hi
  rw [List.all_eq_true]
  exact fun k hk => h i k (List.mem_range.1 hi) (List.mem_range.1 hk)
theorem ag_each {ws : List (List ItemV)} {ps : List Int} (h : agB ws ps = true) {i k : Nat} (hi : i < ps.length) (hk : k < i) : pairB ws ps i k = true := by
  unfold agB at h
  rw [List.all_eq_true] at h
  have := h i (List.mem_range.2 hi)
  rw [List.all_eq_true] at this
  exact this k (List.mem_range.2 hk)
/-- all pairs ahead of (i, k) agree -/
def PairsTo (ws : List (List ItemV)) (ps : List Int) (i k : Nat) : Prop := ∀ a b, b < a → (a < i ∨ (a = i ∧ b < k)) → pairB ws ps a b = true
theorem pairs_zero (ws : List (List ItemV)) (ps : List Int) : PairsTo ws ps 0 0 := fun a b h1 h2 => by omega
theorem pairs_step {ws : List (List ItemV)} {ps : List Int} {i k : Nat} (h : PairsTo ws ps i k) (hp : pairB ws ps i k = true) : PairsTo ws ps i (k + 1) := fun a b h1 h2 => by
  by_cases e : a = i ∧ b = k
  · rw [e.1, e.2]; exact hp
  · exact h a b h1 (by omega)
theorem pairs_next {ws : List (List ItemV)} {ps : List Int} {i : Nat} (h : PairsTo ws ps i i) : PairsTo ws ps (i + 1) 0 := fun a b h1 h2 => h a b h1 (by omega)
theorem pairs_all {ws : List (List ItemV)} {ps : List Int} {i : Nat} (hi : ps.length ≤ i) (h : PairsTo ws ps i 0) : agB ws ps = true := pair_yes fun a b ha hb => h a b hb (.inl (by omega))
/-- where the stamp of a chosen item lies -/
theorem choice_reach {w : World} {b off : Nat} {ws : List (List ItemV)} {ps : List Int} {i : Nat} (hs : SmallItemSS ws) (hc : WinsAt w b off ws) (hi : i < ps.length) (hl : ps.length ≤ ws.length) (hin : inB ws ps = true) :
    ∃ (q bi oi ni ci : Nat) (ma : Option Addr) (mn mc : Nat), ps[i] = (q : Int) ∧ q < ni ∧ ni ≤ 1048576 ∧ w.cell? ⟨b, off + i, none⟩ = some (.slice (some ⟨bi, oi, none⟩) ni ci) ∧ w.cell? ⟨bi, oi + q * 2 + 1, none⟩ = some (.slice ma mn mc) ∧ MarkSRd w (.slice ma mn mc) (stampAt ws ps i) ∧ SmallMarkS (stampAt ws ps i) ∧ (∃ n : Int, w.cell? ⟨bi, oi + q * 2, none⟩ = some (.int .i64 n)) := by
  have hp := in_each hin hi
  have hiw : i < ws.length := by omega
  unfold placeB at hp
  simp only [List.getD_eq_getElem?_getD, List.getElem?_eq_getElem hi, List.getElem?_eq_getElem hiw, Option.getD_some, Bool.and_eq_true, decide_eq_true_eq] at hp
  obtain ⟨q, hq⟩ : ∃ q : Nat, ps[i] = (q : Int) := ⟨ps[i].toNat, by omega⟩
  have hqn : q < ws[i].length := by omega
  obtain ⟨v, c, hv⟩ := hc i hiw
  have hsm := hs.2 _ (List.getElem_mem hiw)
  obtain ⟨a, cc, rfl, hin'⟩ := hv
  rcases hin' with h0 | ⟨bi, oi, rfl, hbi, hat⟩
  · rw [h0] at hqn; simp at hqn
  obtain ⟨e0, v', e1, hm⟩ := hat q hqn
  have hst : stampAt ws ps i = ws[i][q].a1 := by
    unfold stampAt
    simp only [List.getD_eq_getElem?_getD, List.getElem?_eq_getElem hi, List.getElem?_eq_getElem hiw, Option.getD_some, hq, Int.toNat_natCast, List.getElem?_eq_getElem hqn, Option.map_some]
  obtain ⟨ma, mn, mc, rfl⟩ := hm.form
  exact ⟨q, bi, oi, ws[i].length, cc, ma, mn, mc, hq, hqn, hsm.1, c, e1, hst ▸ hm, hst ▸ (hsm.2 _ (List.getElem_mem hqn)).2, ⟨_, e0⟩⟩
theorem choice_no1 {ws : List (List ItemV)} {ps : List Int} (h : winsB ws = false) : choiceB ws ps = false := by simp [choiceB, h]
theorem choice_no2 {ws : List (List ItemV)} {ps : List Int} (h : ps.length ≠ ws.length) : choiceB ws ps = false := by simp [choiceB, h]
theorem choice_no3 {ws : List (List ItemV)} {ps : List Int} (h : inB ws ps = false) : choiceB ws ps = false := by simp [choiceB, h]
theorem choice_ag {ws : List (List ItemV)} {ps : List Int} (h1 : winsB ws = true) (h2 : ps.length = ws.length) (h3 : inB ws ps = true) : choiceB ws ps = agB ws ps := by simp [choiceB, h1, h2, h3]
end Go.Proofs.YtknkdbfgfcgkiaaGreatDoor

set_option linter.unusedVariables false
namespace Go.Proofs.YtknkdbfgfcgkiaaGreatDoor
open Go.RowKit Go.Maps Go.Deep

set_option maxRecDepth 20000 in
set_option maxHeartbeats 6400000 in
theorem ownWindows_any (ws : List (List ItemV)) (v : Value) (w : World) (hs : SmallItemSS ws) (hw : winsB ws = true) (h : ItemSSRd w v ws) :
    Calls Tryz.prog 74 #[v] w fun e w' => ∃ u vs G, e = .returned u ∧ Hid (WinsR w.heap.size w' u vs G ws) ∧ Below w.heap.size w w' := by
  obtain ⟨h1, h6⟩ := winsB_len hw
  have HW := hide (fun x hx => win_item (winsB_each hw x hx))
  have HS := hide hs.2
  obtain ⟨a, cap, rfl, h⟩ := h
  rcases h with h0 | ⟨b, off, rfl, hb, hc⟩
  · rw [h0] at h1; simp at h1
  have HC := hide hc
  clear hs hw hc h1
  go_enter Tryz.func74, Tryz.ntmps74
  go_wp2_with fail
  go_loopw [3, 11] (fun v i wr => ∃ (k : Nat) (vs : List Value) (G : Nat → List Nat), k ≤ ws.length ∧ i = .int .i64 k ∧ Hid (WinsR w.heap.size wr v vs G (ws.take k)) ∧ Hid (Below w.heap.size w wr)) (fun _ i _ => ws.length - (intOf i).toNat)
  case atStart => exact ⟨0, [], fun _ => [], Nat.zero_le _, rfl, WinsR.nil _ _, Below.refl _ _⟩
  case round =>
    obtain ⟨k, vs, G, hk, rfl, HR, HBr⟩ := hrel
    obtain ⟨av, nv, cv, hv⟩ := (unhide HR).row.form
    subst hv
    have hvl : vs.length ≤ 1000000 := by rw [(unhide HR).len]; simp; omega
    by_cases hlt : k < ws.length
    · obtain ⟨iv, c0, hiv⟩ := (unhide HC).up hb (unhide HBr) k hlt
      have HI := hide hiv
      obtain ⟨ia, ic, rfl, -⟩ := hiv
      have HW4 := hide (unhide HW _ (List.getElem_mem hlt))
      have HSM := hide (unhide HS _ (List.getElem_mem hlt)).2
      have HT := hide (show ws.take (k + 1) = ws.take k ++ [ws[k]] from List.take_succ_eq_append_getElem hlt)
      have hbr := (unhide HBr).size
      generalize ws[k] = ns at *
      generalize ws.take k = pre at *
      go_wp2_with fail
      clear c0
      obtain ⟨wo, rfl⟩ : ∃ wo : World, wo = wr := ⟨_, rfl⟩
      go_loopw [6, 17] (fun v i wr => ∃ (j : Nat) (xs : List (Int × Value)), j ≤ ns.length ∧ i = .int .i64 j ∧ Hid (ItRow wo.heap.size wr v xs) ∧ Hid (ItsAre wo.heap.size wr xs (ns.take j) ∧ ApartX xs) ∧ Hid (Below wo.heap.size wo wr)) (fun _ i _ => ns.length - (intOf i).toNat)
      case atStart => exact ⟨0, [], Nat.zero_le _, rfl, hide (ItRow.nil _ _), hide ⟨⟨rfl, fun i h => by simp at h⟩, fun i j h => by simp at h⟩, Below.refl _ _⟩
      case round =>
        obtain ⟨j, xs, hj, rfl, HX, HA, HBq⟩ := hrel
        have hn4 : ns.length ≤ 4 := (unhide HW4).1
        obtain ⟨xa, xc, hx⟩ := (unhide HX).slice
        subst hx
        have hxl : xs.length ≤ 1000000 := by have := (unhide HA).1.1; have := (unhide HW4).1; simp at *; omega
        by_cases hjl : j < ns.length
        · obtain ⟨a', c', e, hin⟩ := (unhide HI).up (unhide HBq)
          simp only [Value.slice.injEq, true_and] at e
          obtain ⟨rfl, rfl⟩ := e
          rcases hin with h0 | ⟨bi, oi, rfl, hbi, hat⟩
          · rw [h0] at hjl; simp at hjl
          obtain ⟨d0, mv, d1, hmv⟩ := hat j hjl
          have HO := hide (fun X (bX : Below wr.heap.size wr X) => ownItem_any ns[j].a0 mv ns[j].a1 X (unhide HSM _ (List.getElem_mem hjl)).2 (by have := ((unhide HW4).2 j hjl).2; omega) (hmv.up bX))
          have HTJ := hide (show ns.take (j + 1) = ns.take j ++ [⟨ns[j].a0, ns[j].a1⟩] from List.take_succ_eq_append_getElem hjl)
          obtain ⟨ma, mn, mc, rfl⟩ := hmv.form
          generalize ns[j].a0 = z at *
          generalize ns[j].a1 = ms at *
          clear hat hmv
          obtain ⟨bx, bb, zz⟩ := boxNew2 wr (.int .i64 z) (.slice ma mn mc) 44
          obtain ⟨e0, e1⟩ := bx.two
          go_wp2_with fail
          generalize wr.alloc (.cells #[.int .i64 z, .slice ma mn mc] 44) = W1 at *
          refine (unhide HO _ bb).mono ?_
          rintro e w3 ⟨u, rfl, HU, b3⟩
          obtain ⟨ua, uc, rfl⟩ := (unhide HU).slice
          have b13 := bb.trans (b3.mono (Nat.le_of_lt zz))
          have hq3 := b13.size
          have hrq := (unhide HBq).size
          have BL := (Below.refl w3.heap.size w3).alloc (Nat.le_refl _) (.cells #[.int .i64 z, .slice ua ms.length uc] 44)
          have X4 := hide (((unhide HX).up b13).up BL)
          have U4 := hide (((unhide HU).mono (show wo.heap.size ≤ W1.heap.size by omega)).up BL)
          have B4 := hide (b13.trans (BL.mono hq3))
          have BR4 := hide ((unhide HBq).trans ((b13.trans (BL.mono hq3)).mono hrq))
          have hz4 : wo.heap.size ≤ (w3.alloc (.cells #[.int .i64 z, .slice ua ms.length uc] 44)).heap.size := by simp; omega
          have ca4 : (w3.alloc (.cells #[.int .i64 z, .slice ua ms.length uc] 44)).cell? ⟨w3.heap.size, 0, none⟩ = some (.int .i64 z) := World.cell?_alloc_at _ _ _ _ rfl
          have cb4 : (w3.alloc (.cells #[.int .i64 z, .slice ua ms.length uc] 44)).cell? ⟨w3.heap.size, 1, none⟩ = some (.slice ua ms.length uc) := World.cell?_alloc_at _ _ _ _ rfl
          have UO := hide (fun k hk => Nat.le_trans (Nat.le_of_lt zz) ((unhide HU).ge k hk))
          clear bx bb zz e0 e1 b3 b13 BL d0 d1 hq3 HU
          go_wp2_with (first
            | (at_builtin; have _g := X4; refine wpList_itAppend rfl _ _ rfl wo.heap.size (.slice xa xs.length xc) xs z ua ms.length uc w3.heap.size rfl rfl (unhide X4) ca4 cb4 (by omega) hz4 ?_; intro g5 n5 c5 w5 r5 gr5 lie5; have R5 := hide r5; have S5 := hide (ItOwn.snoc (u := .slice xa xs.length xc) (unhide HA).1 (unhide HA).2 (unhide B4) (unhide X4) (unhide U4) (unhide UO) r5 gr5); have B5 := hide ((unhide BR4).grown gr5 hz4 (fun q hq => (unhide X4).ge q hq)); clear r5 gr5 lie5 X4 U4 B4 BR4)
            | fail)
          go_roundw
          case rel => exact ⟨j + 1, _, by omega, by go_num, R5, by rw [unhide HTJ]; exact S5, B5⟩
          case measure => simp [intOf]; omega
        · obtain rfl : j = ns.length := by omega
          have HA2 := hide (show ItsAre wo.heap.size wr xs ns ∧ ApartX xs by have := unhide HA; rwa [List.take_length] at this)
          obtain ⟨T, hT, hTB⟩ := ItOwn.full ⟨xs, unhide HX, (unhide HA2).1, (unhide HA2).2⟩
          have HT5 := hide hT
          have HTB := hide hTB
          have R1 := hide ((unhide HR).row.up (unhide HBq))
          have BL := (Below.refl wr.heap.size wr).alloc (Nat.le_refl _) (.cells #[.slice xa xs.length xc] 60)
          have hrq := (unhide HBq).size
          have X4 := hide ((unhide R1).up BL)
          have T4 := hide ((unhide HT5).up BL)
          have BR4 := hide ((unhide HBq).trans (BL.mono hrq))
          have BW4 := hide ((unhide HBr).trans (((unhide HBq).trans (BL.mono hrq)).mono hbr))
          have hz4 : w.heap.size ≤ (wr.alloc (.cells #[.slice xa xs.length xc] 60)).heap.size := by simp; omega
          have ca4 : (wr.alloc (.cells #[.slice xa xs.length xc] 60)).cell? ⟨wr.heap.size, 0, none⟩ = some (.slice xa xs.length xc) := World.cell?_alloc_at _ _ _ _ rfl
          clear BL hT hTB HX HA HA2 R1
          go_wp2_with (first
            | (at_builtin; have _g := X4; refine wpList_wiAppendL rfl _ _ rfl w.heap.size (.slice av nv cv) vs xa xs.length xc wr.heap.size rfl rfl (unhide X4) ca4 (by omega) hz4 ?_; intro g5 n5 c5 w5 r5 hn5 gr5 lie5; subst hn5; have S5 := hide ((unhide HR).snoc (unhide BR4) hbr (unhide T4) (unhide HTB) r5 gr5 (fun k hk => by simp only [Value.ownBlock, Option.some.injEq] at hk; subst hk; exact lie5.imp id (fun e => by omega))); have B5 := hide ((unhide BW4).grown gr5 hz4 (fun q hq => (unhide X4).ge q hq)); clear r5 gr5 lie5 X4 T4 BR4 BW4)
            | fail)
          go_roundw
          case rel => exact ⟨k + 1, _, _, by omega, by go_num, by rw [unhide HT]; exact S5, B5⟩
          case measure => simp [intOf]; omega
    · obtain rfl : k = ws.length := by omega
      have HR2 := hide (show WinsR w.heap.size wr (.slice av nv cv) vs G ws by have := unhide HR; rwa [List.take_length] at this)
      go_wp2_with fail
      go_ret
      exact ⟨_, vs, G, rfl, HR2, unhide HBr⟩
end Go.Proofs.YtknkdbfgfcgkiaaGreatDoor

set_option linter.unusedVariables false
namespace Go.Proofs.YtknkdbfgfcgkiaaGreatDoor
open Go.RowKit Go.Maps Go.Deep

end Go.Proofs.YtknkdbfgfcgkiaaGreatDoor
