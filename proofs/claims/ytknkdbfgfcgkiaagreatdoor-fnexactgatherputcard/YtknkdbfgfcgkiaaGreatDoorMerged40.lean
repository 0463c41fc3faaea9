/-
  The specification's ChoiceBest.
-/
/-
  The program's newChooser.
-/
import Derived.Test.YtknkdbfgfcgkiaaGreatDoorMerged39
import Derived.Test.YtknkdbfgfcgkiaaGreatDoorMerged37
import Derived.Handy
set_option linter.unusedVariables false
namespace Go.Proofs.YtknkdbfgfcgkiaaGreatDoor
open Go.RowKit Go.Maps Go.Deep

theorem wins_four4 {ws : List (List ItemV)} (h : winsB ws = true) : ∀ x ∈ ws, x.length ≤ 4 := fun x hx => (win_items (winsB_each h x hx)).1
theorem InRow.place {B : Nat} {w : World} {a : Option Addr} {n c : Nat} {ts : List Int} (h : InRow B w (.slice a n c) ts) (h0 : 0 < ts.length) : ∃ g, a = some ⟨g, 0, none⟩ ∧ B ≤ g ∧ g < w.heap.size := by
  rcases h.2 with ⟨_, h1⟩ | ⟨g, cap, cur, e, hB, hg, _⟩
  · omega
  · simp only [Value.slice.injEq] at e
    obtain ⟨rfl, rfl, rfl⟩ := e
    exact ⟨g, rfl, hB, (Array.getElem?_eq_some_iff.1 hg).1⟩
theorem InRow.cellAt {B : Nat} {w : World} {g n c : Nat} {ts : List Int} (h : InRow B w (.slice (some ⟨g, 0, none⟩) n c) ts) {i : Nat} (hi : i < ts.length) : w.cell? ⟨g, i, none⟩ = some (.int .i64 (ts.getD i 0)) := by
  have hh : w.ownsRow B 3 1 (.slice (some ⟨g, 0, none⟩) n c) ts.length (ts.map (.int .i64)) := h
  have hn : n = ts.length := by
    obtain ⟨a, c', e⟩ := h.form
    simp only [Value.slice.injEq] at e
    exact e.2.1
  rw [hn] at hh
  rw [hh.cellAt _ (by omega)]
  simp [hi, List.getD_eq_getElem?_getD]
theorem InRow.writable {B : Nat} {w : World} {g n c : Nat} {ts : List Int} (h : InRow B w (.slice (some ⟨g, 0, none⟩) n c) ts) (i : Nat) : w.frozen? ⟨g, i, none⟩ = false := by
  have hh : w.ownsRow B 3 1 (.slice (some ⟨g, 0, none⟩) n c) ts.length (ts.map (.int .i64)) := h
  have hn : n = ts.length := by
    obtain ⟨a, c', e⟩ := h.form
    simp only [Value.slice.injEq] at e
    exact e.2.1
  rw [hn] at hh
  exact hh.frozenAt i
theorem InRow.set {B : Nat} {w : World} {g n c : Nat} {ts : List Int} (h : InRow B w (.slice (some ⟨g, 0, none⟩) n c) ts) (i : Nat) (x : Int) : InRow B (w.setCell ⟨g, i, none⟩ (.int .i64 x)) (.slice (some ⟨g, 0, none⟩) n c) (ts.set i x) := by
  have hh : w.ownsRow B 3 1 (.slice (some ⟨g, 0, none⟩) n c) ts.length (ts.map (.int .i64)) := h
  have hn : n = ts.length := by
    obtain ⟨a, c', e⟩ := h.form
    simp only [Value.slice.injEq] at e
    exact e.2.1
  subst hn
  unfold InRow
  rw [List.length_set, List.map_set]
  exact (hh.stored i (.int .i64 x)).1
set_option maxHeartbeats 3200000 in
theorem specBest_any (ws : List (List ItemV)) (v : Value) (w : World) (hs : SmallItemSS ws) (h : ItemSSRd w v ws) :
    Calls Tryz.prog 25 #[v] w fun e w' => ∃ v', e = .returned (.tuple #[v', .bool (bestB ws)]) ∧ Hid (IntSRd w' v' (bestV ws)) ∧ Below w.heap.size w w' := by
  have HK := hide (l15Ok_any ws v w hs h)
  obtain ⟨a, c, rfl, h⟩ := h
  have hsl := hs.1
  cases hw : winsB ws
  · have HE := hide (best_no (ws := ws) (.inl hw))
    rw [hw] at HK
    clear hw h hs
    go_enter Tryz.func25, Tryz.ntmps25
    go_wp2_with fail
    refine (unhide HK).mono ?_
    rintro e w1 ⟨rfl, b1⟩
    go_wp2_with fail
    refine bodyPost_ret (v := .tuple #[.slice none 0 0, .bool false]) ?_ rfl ?_
    · simp [results, Tryz.results25, go_sem]
    exact ⟨_, by rw [(unhide HE).2], by rw [(unhide HE).1]; exact hide ⟨none, 0, rfl, .inl rfl⟩, b1⟩
  · obtain ⟨h1, h6⟩ := winsB_len hw
    rcases h with rfl | ⟨b, off, rfl, hb, hc⟩
    · simp at h1
    have HA := hide (fun (W : World) (bW : Below w.heap.size w W) => row_all w ws b off c hs (wins_four4 hw) h6 hc hb ws [] none 0 (.slice none 0 0) [] W (by simp) (by simp) (by simp [inB]) (by have : 4 ^ ws.length ≤ 4 ^ 6 := Nat.pow_le_pow_right (by decide) h6; simp; omega) (.inl rfl) (PsRow.nil _ _) bW)
    simp only [List.nil_append] at HA
    rw [show alS ws ws [] = alL ws from rfl] at HA
    have hL : (alL ws).length ≤ 4096 := by
      have h2 := cs_le ws ws [] (wins_four4 hw)
      rw [← al_len] at h2
      have : 4 ^ ws.length ≤ 4 ^ 6 := Nat.pow_le_pow_right (by decide) h6
      unfold alL
      omega
    have HW := hide hw
    rw [hw] at HK
    clear hw hs hc
    by_cases h0 : (alL ws).length = 0
    · have HE := hide (best_no (al_none h0))
      have HL := hide h0
      clear h0
      go_enter Tryz.func25, Tryz.ntmps25
      go_wp2_with fail
      refine (unhide HK).mono ?_
      rintro e w1 ⟨rfl, b1⟩
      have B1 := hide b1
      clear b1
      go_wp2_with fail
      refine (unhide HA _ (unhide B1)).mono ?_
      rintro e w2 ⟨v2, rfl, F2, A2, T2⟩
      obtain ⟨fa, fc, rfl⟩ := (unhide F2).form
      have B2 := hide ((unhide B1).trans ((unhide T2).below (unhide B1).size (fun k hk => by simp [Value.ownBlock] at hk)))
      clear A2 T2 F2
      rw [unhide HL]
      go_wp2_with fail
      refine bodyPost_ret (v := .tuple #[.slice none 0 0, .bool false]) ?_ rfl ?_
      · simp [results, Tryz.results25, go_sem]
      exact ⟨_, by rw [(unhide HE).2], by rw [(unhide HE).1]; exact hide ⟨none, 0, rfl, .inl rfl⟩, unhide B2⟩
    · have hpos : 0 < (alL ws).length := by omega
      have HX := hide (fun i (hi : i < (alL ws).length) => show ((alL ws)[i]).length = ws.length from ((alL_iff ws _).1 (List.getElem_mem hi)).1.1)
      clear h0
      go_enter Tryz.func25, Tryz.ntmps25
      go_wp2_with fail
      refine (unhide HK).mono ?_
      rintro e w1 ⟨rfl, b1⟩
      have B1 := hide b1
      clear b1
      go_wp2_with fail
      refine (unhide HA _ (unhide B1)).mono ?_
      rintro e w2 ⟨v2, rfl, F2, A2, T2⟩
      obtain ⟨fa, fc, rfl⟩ := (unhide F2).form
      have B2 := hide ((unhide B1).trans ((unhide T2).below (unhide B1).size (fun k hk => by simp [Value.ownBlock] at hk)))
      clear A2 T2
      obtain ⟨fg, ya, yc, rfl, y0, yr⟩ := (unhide F2).at hpos
      have hyl := unhide HX 0 hpos
      have hfg := (unhide F2).lt fg rfl
      have R0 := hide (inLit w2 w2.heap.size (Nat.le_refl _))
      have ba : Below w2.heap.size w2 (w2.alloc (.cells #[] 3)) := (Below.refl _ _).alloc (Nat.le_refl _) _
      have y1 := (ba.cell hfg).trans y0
      have U0 := hide (yr.rd.up ba)
      have BA := hide ba
      rw [hyl] at y1 y0
      rw [hyl] at U0
      clear ba yr
      have HM := hide (mx_start (List.getElem_mem hpos))
      generalize (alL ws)[0] = x0 at *
      go_wp2_with (first
        | (at_builtin; have _t := BA; refine wpList_inAppend rfl _ _ rfl w2.heap.size _ _ [] x0 rfl rfl (unhide R0) (unhide U0) (by rw [hyl]; simp; omega) (unhide BA).size ?_; simp only [List.length_nil, Nat.zero_add, List.nil_append, hyl]; intro a3 c3 w3 r3 g3; have R3 := hide r3; have B3 := hide ((unhide BA).grown g3 (unhide BA).size (fun y hy => (unhide R0).ge y hy)); clear r3 g3 BA R0 U0)
        | fail)
      obtain ⟨g3, rfl, hg3, -⟩ := (unhide R3).place (by omega)
      have hsz2 := (unhide B2).size
      go_loopw [6] (fun iv wr => ∃ (i : Nat) (bs : List Int), i ≤ (alL ws).length ∧ iv = .int .i64 i ∧ Hid (MxTo ws bs i 0) ∧ Hid (InRow w2.heap.size wr (.slice (some ⟨g3, 0, none⟩) ws.length c3) bs) ∧ Hid (Below w2.heap.size w2 wr)) (fun iv _ => (alL ws).length - (intOf iv).toNat)
      case atStart => exact ⟨0, x0, Nat.zero_le _, rfl, HM, R3, B3⟩
      case round =>
        obtain ⟨i, bs, hi, rfl, HM1, HR1, HB1⟩ := hrel
        by_cases hlt : i < (alL ws).length
        · go_wp2_with fail
          go_loopw [7] (fun kv wr => ∃ (k : Nat) (bs : List Int), k ≤ ws.length ∧ kv = .int .i64 k ∧ Hid (MxTo ws bs i k) ∧ Hid (InRow w2.heap.size wr (.slice (some ⟨g3, 0, none⟩) ws.length c3) bs) ∧ Hid (Below w2.heap.size w2 wr)) (fun kv _ => ws.length - (intOf kv).toNat)
          case atStart => exact ⟨0, bs, Nat.zero_le _, rfl, HM1, HR1, HB1⟩
          case round =>
            obtain ⟨k, ds, hk, rfl, HM2, HR2, HB2⟩ := hrel
            by_cases hkl : k < ws.length
            · obtain ⟨fg', za, zc, e, z0, zr⟩ := (unhide F2).at hlt
              simp only [Option.some.injEq, Addr.mk.injEq, and_true] at e
              subst e
              have hzl := unhide HX i hlt
              obtain ⟨gz, rfl, -, hgz⟩ := zr.place (by omega)
              have hdl := (unhide HM2).1
              have c0 := ((unhide HB2).cell hfg).trans z0
              have c1 := ((unhide HB2).cell hgz).trans (zr.cellAt (i := k) (by omega))
              have c2 := (unhide HR2).cellAt (i := k) (by omega)
              have f2 := (unhide HR2).writable k
              rw [hzl] at c0
              clear z0 zr y0 y1
              by_cases hgt : ds.getD k 0 < (alL ws)[i].getD k 0
              · have HM3 := hide (mx_set (unhide HM2) hlt hkl hgt)
                generalize (alL ws)[i].getD k 0 = x at *
                generalize ds.getD k 0 = y at *
                clear hdl hzl
                have r0 : ∀ q : LaterW wr, q.to.cell? ⟨fg, i, none⟩ = some (.slice (some ⟨gz, 0, none⟩) ws.length zc) := fun q => q.cell c0
                have r1 : ∀ q : LaterW wr, q.to.cell? ⟨gz, k, none⟩ = some (.int .i64 x) := fun q => q.cell c1
                have r2 : ∀ q : LaterW wr, q.to.cell? ⟨g3, k, none⟩ = some (.int .i64 y) := fun q => q.cell c2
                go_wp2_with fail
                refine wp_region_later (by kernel_rfl) (by kernel_rfl) ?_
                repeat (go_big_quiet_step (fail))
                refine wpQuiet_nil ?_
                rintro _ ⟨q, rfl⟩
                have HR3 := hide (((unhide HR2).up q.bel).set k x)
                have HB3 := hide (((unhide HB2).trans (q.bel.mono (unhide HB2).size)).setCell (p := ⟨g3, k, none⟩) hg3 (.int .i64 x))
                have d0 := r0 q
                have d1 := r1 q
                have d2 := r2 q
                have f3 : q.to.frozen? ⟨g3, k, none⟩ = false := ((unhide HR2).up q.bel).writable k
                clear r0 r1 r2 c0 c1 c2 f2
                go_wp2_with fail
                go_roundw
                case rel => exact ⟨k + 1, _, by omega, by go_num, HM3, HR3, HB3⟩
                case measure => simp [intOf]; omega
              · have HM3 := hide (mx_keep (unhide HM2) hlt (by omega))
                generalize (alL ws)[i].getD k 0 = x at *
                generalize ds.getD k 0 = y at *
                clear hdl hzl
                have r0 : ∀ q : LaterW wr, q.to.cell? ⟨fg, i, none⟩ = some (.slice (some ⟨gz, 0, none⟩) ws.length zc) := fun q => q.cell c0
                have r1 : ∀ q : LaterW wr, q.to.cell? ⟨gz, k, none⟩ = some (.int .i64 x) := fun q => q.cell c1
                have r2 : ∀ q : LaterW wr, q.to.cell? ⟨g3, k, none⟩ = some (.int .i64 y) := fun q => q.cell c2
                go_wp2_with fail
                refine wp_region_later (by kernel_rfl) (by kernel_rfl) ?_
                repeat (go_big_quiet_step (fail))
                refine wpQuiet_nil ?_
                rintro _ ⟨q, rfl⟩
                have HR3 := hide ((unhide HR2).up q.bel)
                have HB3 := hide ((unhide HB2).trans (q.bel.mono (unhide HB2).size))
                clear r0 r1 r2 c0 c1 c2 f2
                go_wp2_with fail
                go_roundw
                case rel => exact ⟨k + 1, _, by omega, by go_num, HM3, HR3, HB3⟩
                case measure => simp [intOf]; omega
            · obtain rfl : k = ws.length := by omega
              have HM3 := hide (mx_next (unhide HM2))
              go_wp2_with fail
              go_roundw
              case rel => exact ⟨i + 1, ds, by omega, by go_num, HM3, HR2, HB2⟩
              case measure => simp [intOf]; omega
        · obtain rfl : i = (alL ws).length := by omega
          have HE := hide (best_yes (mx_end (unhide HW) (unhide HM1)))
          have HBE := hide ((unhide B2).trans ((unhide HB1).mono hsz2))
          go_wp2_with fail
          refine bodyPost_ret (v := .tuple #[.slice (some ⟨g3, 0, none⟩) ws.length c3, .bool true]) ?_ rfl ?_
          · simp [results, Tryz.results25, go_sem]
          exact ⟨_, by rw [(unhide HE).2], by rw [(unhide HE).1]; exact hide (unhide HR1).rd, unhide HBE⟩
end Go.Proofs.YtknkdbfgfcgkiaaGreatDoor

set_option linter.unusedVariables false
namespace Go.Proofs.YtknkdbfgfcgkiaaGreatDoor
open Go.RowKit Go.Maps Go.Deep

theorem lasts_step {ws : List (List ItemV)} {i : Nat} (h : i < ws.length) : lasts (ws.take (i + 1)) = lasts (ws.take i) ++ [(ws[i].length : Int) - 1] := by
  unfold lasts
  rw [List.take_succ_eq_append_getElem h, List.map_append]
  rfl
theorem lasts_len (ws : List (List ItemV)) (i : Nat) (h : i ≤ ws.length) : (lasts (ws.take i)).length = i := by
  unfold lasts
  simp [h]
theorem BoxF.threeC {w : World} {g : Nat} {a b c : Value} (h : BoxF w g [a, b, c]) : (w.cell? ⟨g, 0, none⟩ = some a ∧ w.cell? ⟨g, 1, none⟩ = some b ∧ w.cell? ⟨g, 2, none⟩ = some c) ∧ w.frozen? ⟨g, 1, none⟩ = false :=
  ⟨⟨h.1.2 0 _ rfl, h.1.2 1 _ rfl, h.1.2 2 _ rfl⟩, h.2 1 (by simp)⟩
theorem frst_at {ws : List (List ItemV)} {i : Nat} (h : i < ws.length) (h0 : 0 < ws[i].length) : frst ws i = ws[i][0].a1 := by
  unfold frst
  rw [show ws.getD i [] = ws[i] by rw [List.getD_eq_getElem?_getD, List.getElem?_eq_getElem h]; rfl, List.getElem?_eq_getElem h0]
  rfl
/-- the chooser that is made: its map, the map's lists, its places, its cells -/
structure ChIs (w0 : World) (w : World) (sh : ByteArray → List Int) (wv : Value) (nn : Nat) (D : DataW Unit) (G : ByteArray → Hd) (pv : Value) (ps : List Int) : Prop where
  map : HdMap w w0.heap.size nn D G
  rows : ShRows (w0.heap.size + 2) w G sh pv.ownBlock
  pick : InRow (w0.heap.size + 2) w pv ps
  box : BoxF w (w0.heap.size + 1) [wv, pv, .map (some w0.heap.size)]
  bel : Below w0.heap.size w0 w
theorem ChIs.big {w0 w : World} {sh : ByteArray → List Int} {wv : Value} {nn : Nat} {D : DataW Unit} {G : ByteArray → Hd} {pv : Value} {ps : List Int} (h : ChIs w0 w sh wv nn D G pv ps) : w0.heap.size + 2 ≤ w.heap.size := h.box.1.1
theorem ChIs.up {w0 w w' : World} {sh : ByteArray → List Int} {wv : Value} {nn : Nat} {D : DataW Unit} {G : ByteArray → Hd} {pv : Value} {ps : List Int} (h : ChIs w0 w sh wv nn D G pv ps) (hb : Below w.heap.size w w') : ChIs w0 w' sh wv nn D G pv ps :=
  ⟨h.map.up hb, h.rows.up hb, h.pick.up hb, h.box.up hb, h.bel.trans (hb.mono h.bel.size)⟩
/-- one more place -/
theorem ChIs.picked {w0 w w3 : World} {sh : ByteArray → List Int} {wv : Value} {nn : Nat} {D : DataW Unit} {G : ByteArray → Hd} {pv : Value} {ps ps' : List Int} {g n c : Nat} (h : ChIs w0 w sh wv nn D G pv ps)
    (hr : InRow (w0.heap.size + 2) w3 (.slice (some ⟨g, 0, none⟩) n c) ps') (hg : w.grownBy w3 pv.ownBlock) (hl : pv.ownBlock = some g ∨ w.heap.size ≤ g) : ChIs w0 (w3.setCell ⟨w0.heap.size + 1, 1, none⟩ (.slice (some ⟨g, 0, none⟩) n c)) sh wv nn D G (.slice (some ⟨g, 0, none⟩) n c) ps' := by
  have hbig := h.big
  have hge : w0.heap.size + 2 ≤ g := hr.ge g rfl
  have hpg : ∀ k, pv.ownBlock = some k → w0.heap.size + 2 ≤ k := fun k hk => h.pick.ge k hk
  have m3 := h.map.kept hg (fun e => by have := hpg _ e.symm; omega)
  have t3 : Turn pv.ownBlock.toList w w3 := Turn.of_grown hg (fun k hk => .inl (by simpa using hk))
  have b3 := h.box.turn t3 (fun hm => by have := hpg _ (by simpa using hm); omega)
  have ra := h.rows.aim (pr' := some g) (fun k hk => by
    simp only [Option.some.injEq] at hk
    subst hk
    exact hl)
  have rg := h.rows.grown hg
  have r3 : ShRows (w0.heap.size + 2) w3 G sh (some g) := ⟨rg.row, rg.non, rg.far, ra.off⟩
  have ts : Turn [w0.heap.size + 1] w3 (w3.setCell ⟨w0.heap.size + 1, 1, none⟩ (.slice (some ⟨g, 0, none⟩) n c)) := (Turn.refl _ w3).setCell (by simp) 1 _
  have hb3 : Below w0.heap.size w0 w3 := h.bel.grown hg (by omega) (fun k hk => by have := hpg k hk; omega)
  exact ⟨m3.setCell (by simp) _, r3.turn ts (fun k hk => .inl (by simp at hk; omega)), hr.keep (fun k hk => ts.block k (hr.lt k hk) (by have := hr.ge k hk; simp; omega)), b3.set 1 _ (by simp), hb3.trans (ts.below hb3.size (fun k hk => by simp at hk; omega))⟩
/-- one key's list has grown -/
theorem ChIs.put {w0 w w1 w2 : World} {sh sh' : ByteArray → List Int} {wv : Value} {nn : Nat} {D D' : DataW Unit} {G : ByteArray → Hd} {pv : Value} {ps : List Int} {s : ByteArray} {y : Int} {g n c : Nat} (h : ChIs w0 w sh wv nn D G pv ps)
    (hr : InRow (w0.heap.size + 2) w1 (.slice (some ⟨g, 0, none⟩) n c) (sh s ++ [y])) (hg : w.grownBy w1 (hdV (G s)).ownBlock) (hl : (hdV (G s)).ownBlock = some g ∨ w.heap.size ≤ g) (hm : HdMap w2 w0.heap.size (nn + 1) D' (setG G s (g, n, c))) (h2 : w1.grownBy w2 (some w0.heap.size)) (hs : sh' s = sh s ++ [y]) (ho : ∀ s', s' ≠ s → sh' s' = sh s') :
    ChIs w0 w2 sh' wv (nn + 1) D' (setG G s (g, n, c)) pv ps := by
  have hbig := h.big
  have hge : ∀ k, (hdV (G s)).ownBlock = some k → w0.heap.size + 2 ≤ k := fun k hk => (h.rows.row s).ge k hk
  have t1 : Turn (hdV (G s)).ownBlock.toList w w1 := Turn.of_grown hg (fun k hk => .inl (by simpa using hk))
  have t2 : Turn [w0.heap.size] w1 w2 := Turn.of_grown h2 (fun k hk => .inl (by simp at hk; simp [hk]))
  have p1 : InRow (w0.heap.size + 2) w1 pv ps := h.pick.keep (fun k hk => hg.block k (h.pick.lt k hk) (fun e => h.rows.off s k e.symm hk))
  have b1 := h.box.turn t1 (fun hm => by have := hge _ (by simpa using hm); omega)
  have e1 : Below w0.heap.size w0 w1 := h.bel.trans (t1.below h.bel.size (fun k hk => by have := hge k (by simpa using hk); omega))
  exact ⟨hm, h.rows.put (b := w0.heap.size) (by omega) (fun p hp => h.pick.lt p hp) hr hg hl h2 hs ho, p1.keep (fun k hk => t2.block k (p1.lt k hk) (by have := p1.ge k hk; simp; omega)), b1.turn t2 (by simp), e1.trans (t2.below e1.size (fun k hk => by simp at hk; omega))⟩
theorem ChIs.boxAt {w0 w w3 : World} {sh : ByteArray → List Int} {wv : Value} {nn : Nat} {D : DataW Unit} {G : ByteArray → Hd} {pv : Value} {ps : List Int} (h : ChIs w0 w sh wv nn D G pv ps) (hg : w.grownBy w3 pv.ownBlock) : BoxF w3 (w0.heap.size + 1) [wv, pv, .map (some w0.heap.size)] :=
  h.box.turn (Turn.of_grown (S := pv.ownBlock.toList) hg (fun k hk => .inl (by simpa using hk))) (fun hm => by have := h.pick.ge _ (by simpa using hm); omega)
/-- the sources that more than one window has -/
def shC (ws : List (List ItemV)) : ByteArray → List Int := fun s => if (shr ws ws.length 0 s).length = 1 then [] else shr ws ws.length 0 s
theorem cut_row {B : Nat} {w : World} {G : ByteArray → Hd} {sh : ByteArray → List Int} {pr : Option Nat} (h : ShRows B w G sh pr) (s : ByteArray) : (oneH (G s) = true ∧ (sh s).length = 1) ∨ (oneH (G s) = false ∧ (sh s).length ≠ 1) := by
  have hr := h.row s
  cases hg : G s with
  | none =>
    rw [hg] at hr
    obtain ⟨a, c, e⟩ := hr.form
    simp only [hdV, Value.slice.injEq] at e
    exact .inr ⟨rfl, by omega⟩
  | some o =>
    obtain ⟨g, n, c⟩ := o
    rw [hg] at hr
    obtain ⟨a, c', e⟩ := hr.form
    simp only [hdV, Value.slice.injEq] at e
    by_cases h1 : n = 1
    · exact .inl ⟨by simp [oneH, h1], by omega⟩
    · exact .inr ⟨by simp [oneH, h1], by omega⟩
theorem ShRows.cut {B : Nat} {w : World} {G : ByteArray → Hd} {sh : ByteArray → List Int} {pr : Option Nat} (h : ShRows B w G sh pr) : ShRows B w (cutG G) (fun s => if (sh s).length = 1 then [] else sh s) pr := by
  have same : ∀ s g, (hdV (cutG G s)).ownBlock = some g → cutG G s = G s ∧ (hdV (G s)).ownBlock = some g := fun s g hg => by
    unfold cutG at hg ⊢
    split at hg
    · simp [hdV, Value.ownBlock] at hg
    · rename_i hn
      exact ⟨by rw [if_neg hn], hg⟩
  refine ⟨fun s => ?_, fun s hn => ?_, fun s s' g h1 h2 => h.far s s' g (same s g h1).2 (same s' g h2).2, fun s g hg => h.off s g (same s g hg).2⟩
  · unfold cutG
    rcases cut_row h s with ⟨e1, e2⟩ | ⟨e1, e2⟩
    · simp only [e1, e2, if_true]
      exact InRow.nilAt B w
    · simp only [e1, e2, if_false, Bool.false_eq_true]
      exact h.row s
  · unfold cutG at hn
    rcases cut_row h s with ⟨e1, e2⟩ | ⟨e1, e2⟩
    · simp [e1] at hn
    · simp only [e1, Bool.false_eq_true, if_false] at hn
      simp only [e2, if_false]
      exact h.non s hn
theorem ChIs.cut {w0 w w' : World} {sh : ByteArray → List Int} {wv : Value} {nn : Nat} {D D' : DataW Unit} {G : ByteArray → Hd} {pv : Value} {ps : List Int} (h : ChIs w0 w sh wv nn D G pv ps) (hm : HdMap w' w0.heap.size nn D' (cutG G)) (hg : w.grownBy w' (some w0.heap.size)) :
    ChIs w0 w' (fun s => if (sh s).length = 1 then [] else sh s) wv nn D' (cutG G) pv ps := by
  have t : Turn [w0.heap.size] w w' := Turn.of_grown hg (fun k hk => .inl (by simp at hk; simp [hk]))
  exact ⟨hm, h.rows.cut.turn t (fun k hk => .inl (by simp at hk; omega)), h.pick.keep (fun k hk => t.block k (h.pick.lt k hk) (by have := h.pick.ge k hk; simp; omega)), h.box.turn t (by simp), h.bel.trans (t.below h.bel.size (fun k hk => by simp at hk; omega))⟩
theorem win_first {w : World} {b off : Nat} {ws : List (List ItemV)} {i : Nat} (hlt : i < ws.length) (hs : SmallItemSS ws) (hw : winsB ws = true) (he : ∀ x ∈ ws, x ≠ []) (hc : WinsAt w b off ws) :
    ∃ (ni bi oi ci : Nat) (ma : Option Addr) (mc : Nat) (n0 : Int), bi < w.heap.size ∧ ni ≤ 1048576 ∧ 0 < ni ∧ lasts (ws.take (i + 1)) = lasts (ws.take i) ++ [(ni : Int) - 1] ∧ w.cell? ⟨b, off + i, none⟩ = some (.slice (some ⟨bi, oi, none⟩) ni ci) ∧ w.cell? ⟨bi, oi, none⟩ = some (.int .i64 n0) ∧ w.cell? ⟨bi, oi + 1, none⟩ = some (.slice ma (frst ws i).length mc) ∧
      MarkSRd w (.slice ma (frst ws i).length mc) (frst ws i) ∧ SmallMarkS (frst ws i) ∧ mstampB (frst ws i) = true := by
  have hne : 0 < ws[i].length := List.length_pos_iff.2 (he _ (List.getElem_mem hlt))
  rw [frst_at hlt hne]
  have hsm := hs.2 _ (List.getElem_mem hlt)
  obtain ⟨iv, ic, hiv⟩ := hc i hlt
  obtain ⟨ia, icc, rfl, hin⟩ := hiv
  rcases hin with h0 | ⟨bi, oi, rfl, hbi, hat⟩
  · rw [h0] at hne; simp at hne
  obtain ⟨e0, mv, e1, hmv⟩ := hat 0 hne
  simp only [Nat.zero_mul, Nat.add_zero] at e0 e1
  obtain ⟨ma, mc, rfl, hm⟩ : ∃ ma mc, mv = .slice ma (ws[i][0].a1).length mc ∧ True := by
    obtain ⟨a', c', e, _⟩ := hmv
    exact ⟨a', c', e, trivial⟩
  exact ⟨ws[i].length, bi, oi, icc, ma, mc, _, hbi, hsm.1, hne, lasts_step hlt, ic, e0, e1, hmv, (hsm.2 _ (List.getElem_mem hne)).2, win_stamp (winsB_each hw _ (List.getElem_mem hlt)) hne⟩
set_option maxRecDepth 20000 in
set_option maxHeartbeats 6400000 in
theorem newChooser_any (w : World) (b off cap : Nat) (ws : List (List ItemV)) (hs : SmallItemSS ws) (hw : winsB ws = true) (he : ∀ x ∈ ws, x ≠ []) (hc : WinsAt w b off ws) (hb : b < w.heap.size) :
    Calls Tryz.prog 112 #[.slice (some ⟨b, off, none⟩) ws.length cap] w fun e w' => e = .returned (.pointer (some ⟨w.heap.size + 1, 0, none⟩)) ∧ ∃ (nn : Nat) (D : DataW Unit) (G : ByteArray → Hd) (gp pc : Nat), Hid (nn ≤ 10000000) ∧ Hid (ChIs w w' (shC ws) (.slice (some ⟨b, off, none⟩) ws.length cap) nn D G (.slice (some ⟨gp, 0, none⟩) ws.length pc) (lasts ws)) := by
  have hsl := (winsB_len hw).2
  have hsl1 := (winsB_len hw).1
  have HC := hide hc
  have HS := hide hs
  have HW := hide hw
  have HE := hide he
  clear hs hw he hc
  have hmm := @run_makeMap Tryz.prog
  go_enter Tryz.func112, Tryz.ntmps112
  go_wp2_with fail
  have H0 := hide (show ChIs w ((w.alloc (.map #[] 0)).alloc (.cells #[.slice (some ⟨b, off, none⟩) ws.length cap, .slice none 0 0, .map (some w.heap.size)] 194)) (shr ws 0 0) (.slice (some ⟨b, off, none⟩) ws.length cap) 0 (.map []) (fun _ => none) (.slice none 0 0) (lasts (ws.take 0)) from
    ⟨(HdMap.made w).alloc _, ShRows.start _ _ _ (shr_zero ws) _, InRow.nilAt _ _, by
      have := boxF_new (w.alloc (.map #[] 0)) [.slice (some ⟨b, off, none⟩) ws.length cap, .slice none 0 0, .map (some w.heap.size)] 194
      rwa [show (w.alloc (.map #[] 0)).heap.size = w.heap.size + 1 by simp] at this, ((Below.refl _ _).alloc (Nat.le_refl _) _).alloc (by simp) _⟩)
  go_loopw [14] (fun iv wr => ∃ (i nn : Nat) (D : DataW Unit) (G : ByteArray → Hd) (pa : Option Addr) (pc : Nat), i ≤ ws.length ∧ iv = .int .i64 i ∧ nn ≤ i * 1048576 ∧ Hid (ChIs w wr (shr ws i 0) (.slice (some ⟨b, off, none⟩) ws.length cap) nn D G (.slice pa i pc) (lasts (ws.take i)))) (fun iv _ => ws.length - (intOf iv).toNat)
  case atStart => exact ⟨0, 0, _, _, none, 0, Nat.zero_le _, rfl, Nat.le_refl _, H0⟩
  case round =>
    clear H0
    obtain ⟨i, nn, D, G, pa, pc, hi, rfl, hnn, HI⟩ := hrel
    have HLL := hide (lasts_len ws i hi)
    by_cases hlt : i < ws.length
    · obtain ⟨ni, bi, oi, ci, ma, mc, n0, hbi, hni, hni0, hls, a0, a1, a2, hmv, hms, hst⟩ := win_first hlt (unhide HS) (unhide HW) (unhide HE) (unhide HC)
      have c0 := ((unhide HI).bel.cell (show b < w.heap.size from hb)).trans a0
      have HLS := hide hls
      have HMV := hide hmv
      have HMS := hide hms
      have HST := hide hst
      obtain ⟨⟨b0, b1, b2⟩, f1⟩ := (unhide HI).box.threeC
      have hbb : w.heap.size + 1 < wr.heap.size := (unhide HI).box.1.1
      clear hmv hst hms hls
      go_wp2_with (first
        | (at_builtin; refine wpList_inOne rfl _ _ rfl (w.heap.size + 2) _ (lasts (ws.take i)) ((ni : Int) - 1) wr.heap.size rfl rfl ((unhide HI).pick.up ((Below.refl _ _).alloc (Nat.le_refl _) _)) (World.cell?_alloc_at _ _ _ _ rfl) (by rw [unhide HLL]; omega) (by simp; omega) ?_; rw [unhide HLL, ← unhide HLS]; intro g3 c3 w3 r3 gr3 at3; have g3' : wr.grownBy w3 (Value.slice pa i pc).ownBlock := (World.grownBy_alloc wr (.cells #[.int .i64 ((ni : Int) - 1)] 3) _).trans gr3; have S3 := hide ((unhide HI).picked r3 g3' (at3.imp id (fun e => by simp at e; omega))); have z1 := ((unhide HI).boxAt g3').threeC.1.2.1; have z2 := ((unhide HI).boxAt g3').threeC.2; have q0 := ((unhide S3).bel.cell (show bi < w.heap.size from hbi)).trans a1; have q1 := ((unhide S3).bel.cell (show bi < w.heap.size from hbi)).trans a2; clear r3 gr3 at3 g3')
        | fail)
      clear q0 q1 z1 z2 b0 b1 b2 f1
      have hl12 : (frst ws i).length ≤ 1048576 := by have := (unhide HMS).1.1; omega
      go_loopw [36] (fun jv wr => ∃ (j n2 : Nat) (D2 : DataW Unit) (G2 : ByteArray → Hd), j ≤ (frst ws i).length ∧ jv = .int .i64 j ∧ n2 ≤ nn + j ∧ Hid (ChIs w wr (shr ws i j) (.slice (some ⟨b, off, none⟩) ws.length cap) n2 D2 G2 (.slice (some ⟨g3, 0, none⟩) (i + 1) c3) (lasts (ws.take (i + 1))))) (fun jv _ => (frst ws i).length - (intOf jv).toNat)
      case atStart => exact ⟨0, nn, D, G, Nat.zero_le _, rfl, by omega, S3⟩
      case round =>
        clear S3 HI
        obtain ⟨j, n2, D2, G2, hj, rfl, hn2, HI2⟩ := hrel
        by_cases hjl : j < (frst ws i).length
        · obtain ⟨ma', mc', e, hin⟩ := unhide HMV
          simp only [Value.slice.injEq, true_and] at e
          obtain ⟨rfl, rfl⟩ := e
          rcases hin with h0 | ⟨bm, om, rfl, hbm, hat⟩
          · rw [h0] at hjl; simp at hjl
          obtain ⟨d0, d1⟩ := hat j hjl
          have x0 := ((unhide HI2).bel.cell (show bm < w.heap.size from hbm)).trans d0
          have x1 := ((unhide HI2).bel.cell (show bm < w.heap.size from hbm)).trans d1
          have HSTEP := hide (shr_step (ws := ws) (i := i) (j := j) (asc_of_stamp (unhide HST)) hjl)
          have HSZ := hide ((unhide HMS).2 _ (List.getElem_mem hjl))
          have HN2 := hide (show n2 ≤ 100000000 by have := (unhide HMS).1.1; omega)
          generalize hmk : (frst ws i)[j] = mk at *
          clear hat d0 d1 hmk
          go_wp2_with fail
          obtain ⟨W, hW⟩ : ∃ W, W = wr.alloc (.cells #[.string mk.a0, .int .i64 mk.a1] 112) := ⟨_, rfl⟩
          have bW : Below wr.heap.size wr W := by rw [hW]; exact (Below.refl _ _).alloc (Nat.le_refl _) _
          have y1 : W.cell? ⟨wr.heap.size, 0, none⟩ = some (.string mk.a0) := by rw [hW]; exact World.cell?_alloc_at _ _ _ _ rfl
          have CW := hide ((unhide HI2).up bW)
          have y2 := (unhide CW).box.threeC.1.2.2
          have hgl := (unhide CW).box.1.1
          have hvl : wr.heap.size < W.heap.size := by rw [hW]; simp
          have hvb := (unhide HI2).big
          have HKW := hide (unhide HSZ).1
          have HSL := hide (shr_len ws i j mk.a0)
          have KP := hide (show ∀ X, Turn ((hdV (G2 mk.a0)).ownBlock.toList ++ [w.heap.size]) W X → X.cell? ⟨w.heap.size + 1, 2, none⟩ = some (.map (some w.heap.size)) ∧ X.cell? ⟨wr.heap.size, 0, none⟩ = some (.string mk.a0) from fun X t => by
            have hlow : ∀ k, (hdV (G2 mk.a0)).ownBlock = some k → w.heap.size + 2 ≤ k ∧ k < wr.heap.size := fun k hk => ⟨((unhide HI2).rows.row _).ge k hk, ((unhide HI2).rows.row _).lt k hk⟩
            refine ⟨(t.cell (show w.heap.size + 1 < W.heap.size from hgl) (fun hm => ?_)).trans y2, (t.cell (show wr.heap.size < W.heap.size from hvl) (fun hm => ?_)).trans y1⟩
            · rcases List.mem_append.1 hm with h | h
              · have := hlow _ (by simpa using h); omega
              · simp at h
            · rcases List.mem_append.1 hm with h | h
              · have := hlow _ (by simpa using h); omega
              · simp at h; omega)
          rw [← hW]
          clear hW bW x0 x1 HI2
          generalize hgv : wr.heap.size = gv at *
          clear hgv
          have hl1 := (unhide CW).map.drew.look (unhide HKW) Tryz.underlying192
          have hl2 := ((unhide CW).map.alloc (.cells #[.int .i64 (i : Int)] 3)).drew.look (unhide HKW) Tryz.underlying192
          have T0 := hide (Turn.refl ((hdV (G2 mk.a0)).ownBlock.toList ++ [w.heap.size]) W)
          go_region_held3 (fun X => X.cell? ⟨w.heap.size + 1, 2, none⟩ = some (.map (some w.heap.size)) ∧ X.cell? ⟨gv, 0, none⟩ = some (.string mk.a0)) ((refine unhide KP _ ?_; first | exact unhide (by assumption) | exact (Turn.refl _ W).alloc _ | exact Turn.of_below (((Below.refl _ _).alloc (Nat.le_refl _) _).drew) | exact Turn.of_below ((Below.refl _ _).drew)))
            (first
              | (refine step_inOne (by first | rfl | simp [Region.wanted, yielded]) (.tmp 52) (.tmp 54) (by rfl) (w.heap.size + 2) (hdV (G2 mk.a0)) (shr ws i j mk.a0) (i : Int) W.heap.size (by rfl) (by rfl) (((unhide CW).rows.row mk.a0).up (((Below.refl _ _).alloc (Nat.le_refl _) _).drew)) (World.cell?_alloc_at _ _ _ _ rfl) (by have := unhide HSL; omega) (Nat.le_trans (unhide CW).big (by simp)) ?_; intro g4 c4 w4 r4 gr4 at4; have R4 := hide r4; have G4 := hide (show W.grownBy w4 (hdV (G2 mk.a0)).ownBlock from World.grownBy.trans (b := (W.alloc (.cells #[.int .i64 (i : Int)] 3)).drew) ⟨rfl, rfl, rfl, by simp, fun k hk _ => Below.heap_alloc W _ k hk⟩ gr4); have A4 := hide (show (hdV (G2 mk.a0)).ownBlock = some g4 ∨ W.heap.size ≤ g4 from at4.imp id (fun e => by simp at e; omega)); have T4 := hide (show Turn ((hdV (G2 mk.a0)).ownBlock.toList ++ [w.heap.size]) W w4 from Turn.of_grown (unhide G4) (fun k hk => .inl (by simp [hk]))); obtain ⟨w5, D5, hput, m5, gr5⟩ := ((unhide CW).map.kept (unhide G4) (fun e => by have := ((unhide CW).rows.row mk.a0).ge _ e.symm; omega)).put (by unfold maxLen; have := unhide HN2; omega) (unhide HKW) Tryz.underlying192 (g4, (shr ws i j mk.a0).length + 1, c4); simp only [hdV] at hput; have M5 := hide m5; have G5 := hide gr5; have T5 := hide (show Turn ((hdV (G2 mk.a0)).ownBlock.toList ++ [w.heap.size]) W w5 from (unhide T4).trans (Turn.of_grown gr5 (fun k hk => .inl (by simp at hk; simp [hk])))); clear r4 gr4 at4 m5 gr5))
          all_goals
            have C5 := hide ((unhide CW).put (sh' := shr ws i (j + 1)) (unhide R4) (unhide G4) (unhide A4) (unhide M5) (unhide G5) (unhide HSTEP).1 (unhide HSTEP).2)
            clear hl1 hl2 hput y1 y2
            go_wp2_with fail
            go_roundw
            case rel => exact ⟨j + 1, n2 + 1, D5, _, by omega, by go_num, by omega, C5⟩
            case measure => simp [intOf]; omega
        · obtain rfl : j = (frst ws i).length := by omega
          have HNX := hide (show ChIs w wr (shr ws (i + 1) 0) (.slice (some ⟨b, off, none⟩) ws.length cap) n2 D2 G2 (.slice (some ⟨g3, 0, none⟩) (i + 1) c3) (lasts (ws.take (i + 1))) by
            have h := unhide HI2
            rwa [show shr ws i (frst ws i).length = shr ws (i + 1) 0 from funext (shr_next ws i)] at h)
          go_wp2_with fail
          go_roundw
          case rel => exact ⟨i + 1, n2, D2, G2, some ⟨g3, 0, none⟩, c3, by omega, by go_num, by omega, HNX⟩
          case measure => simp [intOf]; omega
    · obtain rfl : i = ws.length := by omega
      have HI2 := hide (show ChIs w wr (shr ws ws.length 0) (.slice (some ⟨b, off, none⟩) ws.length cap) nn D G (.slice pa ws.length pc) (lasts ws) by
        have h := unhide HI
        rwa [List.take_length] at h)
      clear HI
      have HNN := hide (show nn ≤ 10000000 by have : ws.length * 1048576 ≤ 6 * 1048576 := Nat.mul_le_mul_right _ hsl; omega)
      obtain ⟨gp, rfl, -, -⟩ := (unhide HI2).pick.place (by rw [show lasts ws = lasts (ws.take ws.length) by rw [List.take_length], unhide HLL]; omega)
      have b2 := (unhide HI2).box.threeC.1.2.2
      go_wp2_with (go_at_call 124; refine (del_any (unhide HI2).map).mono ?_; rintro e w2 ⟨rfl, D2, m2, g2⟩; have C2 := hide ((unhide HI2).cut m2 g2); clear m2 g2)
      go_ret
      exact ⟨rfl, nn, D2, _, gp, pc, HNN, C2⟩
end Go.Proofs.YtknkdbfgfcgkiaaGreatDoor
