/-
  The specification's ChoiceBest.
-/
import Derived.Test.YtpiapgjiaeddjaaAllS
set_option linter.unusedVariables false
namespace Go.Proofs.Ytpiapgjiaeddjaa
open Go.RowKit Go.Maps Go.Deep

theorem wins_four4 {ws : List (List ItemV)} (h : winsB ws = true) : ∀ x ∈ ws, x.length ≤ 4 := fun x hx => (win_items (winsB_each h x hx)).1
theorem InRow.place {B : Nat} {w : World} {a : Option Addr} {n c : Nat} {ts : List Int} (h : InRow B w (.slice a n c) ts) (h0 : 0 < ts.length) : ∃ g, a = some ⟨g, 0, none⟩ ∧ B ≤ g ∧ g < w.heap.size := by
  rcases h.2 with ⟨_, h1⟩ | ⟨g, cap, cur, e, hB, hg, _⟩
  · omega
  · simp only [Value.slice.injEq] at e
    obtain ⟨rfl, rfl, rfl⟩ := e
    exact ⟨g, rfl, hB, (Array.getElem?_eq_some_iff.1 hg).1⟩
theorem InRow.cellAt {B : Nat} {w : World} {g n c : Nat} {ts : List Int} (h : InRow B w (.slice (some ⟨g, 0, none⟩) n c) ts) {i : Nat} (hi : i < ts.length) : w.cell? ⟨g, i, none⟩ = some (.int .i64 (ts.getD i 0)) := by
  have hh : w.ownsRow B 3 1 (.slice (some ⟨g, 0, none⟩) n c) ts.length (ts.map (.int .i64)) := h
  have hn : n = ts.length := by
    obtain ⟨a, c', e⟩ := h.form
    simp only [Value.slice.injEq] at e
    exact e.2.1
  rw [hn] at hh
  rw [hh.cellAt _ (by omega)]
  simp [hi, List.getD_eq_getElem?_getD]
theorem InRow.writable {B : Nat} {w : World} {g n c : Nat} {ts : List Int} (h : InRow B w (.slice (some ⟨g, 0, none⟩) n c) ts) (i : Nat) : w.frozen? ⟨g, i, none⟩ = false := by
  have hh : w.ownsRow B 3 1 (.slice (some ⟨g, 0, none⟩) n c) ts.length (ts.map (.int .i64)) := h
  have hn : n = ts.length := by
    obtain ⟨a, c', e⟩ := h.form
    simp only [Value.slice.injEq] at e
    exact e.2.1
  rw [hn] at hh
  exact hh.frozenAt i
theorem InRow.set {B : Nat} {w : World} {g n c : Nat} {ts : List Int} (h : InRow B w (.slice (some ⟨g, 0, none⟩) n c) ts) (i : Nat) (x : Int) : InRow B (w.setCell ⟨g, i, none⟩ (.int .i64 x)) (.slice (some ⟨g, 0, none⟩) n c) (ts.set i x) := by
  have hh : w.ownsRow B 3 1 (.slice (some ⟨g, 0, none⟩) n c) ts.length (ts.map (.int .i64)) := h
  have hn : n = ts.length := by
    obtain ⟨a, c', e⟩ := h.form
    simp only [Value.slice.injEq] at e
    exact e.2.1
  subst hn
  unfold InRow
  rw [List.length_set, List.map_set]
  exact (hh.stored i (.int .i64 x)).1
set_option maxHeartbeats 3200000 in
theorem specBest_any (ws : List (List ItemV)) (v : Value) (w : World) (hs : SmallItemSS ws) (h : ItemSSRd w v ws) :
    Calls Try.prog 5 #[v] w fun e w' => ∃ v', e = .returned (.tuple #[v', .bool (bestB ws)]) ∧ Hid (IntSRd w' v' (bestV ws)) ∧ Below w.heap.size w w' := by
  have HK := hide (l15Ok_any ws v w hs h)
  obtain ⟨a, c, rfl, h⟩ := h
  have hsl := hs.1
  cases hw : winsB ws
  · have HE := hide (best_no (ws := ws) (.inl hw))
    rw [hw] at HK
    clear hw h hs
    go_enter Try.func5, Try.ntmps5
    go_wp2_with fail
    refine (unhide HK).mono ?_
    rintro e w1 ⟨rfl, b1⟩
    go_wp2_with fail
    refine bodyPost_ret (v := .tuple #[.slice none 0 0, .bool false]) ?_ rfl ?_
    · simp [results, Try.results5, go_sem]
    exact ⟨_, by rw [(unhide HE).2], by rw [(unhide HE).1]; exact hide ⟨none, 0, rfl, .inl rfl⟩, b1⟩
  · obtain ⟨h1, h6⟩ := winsB_len hw
    rcases h with rfl | ⟨b, off, rfl, hb, hc⟩
    · simp at h1
    have HA := hide (fun (W : World) (bW : Below w.heap.size w W) => row_all w ws b off c hs (wins_four4 hw) h6 hc hb ws [] none 0 (.slice none 0 0) [] W (by simp) (by simp) (by simp [inB]) (by have : 4 ^ ws.length ≤ 4 ^ 6 := Nat.pow_le_pow_right (by decide) h6; simp; omega) (.inl rfl) (PsRow.nil _ _) bW)
    simp only [List.nil_append] at HA
    rw [show alS ws ws [] = alL ws from rfl] at HA
    have hL : (alL ws).length ≤ 4096 := by
      have h2 := cs_le ws ws [] (wins_four4 hw)
      rw [← al_len] at h2
      have : 4 ^ ws.length ≤ 4 ^ 6 := Nat.pow_le_pow_right (by decide) h6
      unfold alL
      omega
    have HW := hide hw
    rw [hw] at HK
    clear hw hs hc
    by_cases h0 : (alL ws).length = 0
    · have HE := hide (best_no (al_none h0))
      have HL := hide h0
      clear h0
      go_enter Try.func5, Try.ntmps5
      go_wp2_with fail
      refine (unhide HK).mono ?_
      rintro e w1 ⟨rfl, b1⟩
      have B1 := hide b1
      clear b1
      go_wp2_with fail
      refine (unhide HA _ (unhide B1)).mono ?_
      rintro e w2 ⟨v2, rfl, F2, A2, T2⟩
      obtain ⟨fa, fc, rfl⟩ := (unhide F2).form
      have B2 := hide ((unhide B1).trans ((unhide T2).below (unhide B1).size (fun k hk => by simp [Value.ownBlock] at hk)))
      clear A2 T2 F2
      rw [unhide HL]
      go_wp2_with fail
      refine bodyPost_ret (v := .tuple #[.slice none 0 0, .bool false]) ?_ rfl ?_
      · simp [results, Try.results5, go_sem]
      exact ⟨_, by rw [(unhide HE).2], by rw [(unhide HE).1]; exact hide ⟨none, 0, rfl, .inl rfl⟩, unhide B2⟩
    · have hpos : 0 < (alL ws).length := by omega
      have HX := hide (fun i (hi : i < (alL ws).length) => show ((alL ws)[i]).length = ws.length from ((alL_iff ws _).1 (List.getElem_mem hi)).1.1)
      clear h0
      go_enter Try.func5, Try.ntmps5
      go_wp2_with fail
      refine (unhide HK).mono ?_
      rintro e w1 ⟨rfl, b1⟩
      have B1 := hide b1
      clear b1
      go_wp2_with fail
      refine (unhide HA _ (unhide B1)).mono ?_
      rintro e w2 ⟨v2, rfl, F2, A2, T2⟩
      obtain ⟨fa, fc, rfl⟩ := (unhide F2).form
      have B2 := hide ((unhide B1).trans ((unhide T2).below (unhide B1).size (fun k hk => by simp [Value.ownBlock] at hk)))
      clear A2 T2
      obtain ⟨fg, ya, yc, rfl, y0, yr⟩ := (unhide F2).at hpos
      have hyl := unhide HX 0 hpos
      have hfg := (unhide F2).lt fg rfl
      have R0 := hide (inLit w2 w2.heap.size (Nat.le_refl _))
      have ba : Below w2.heap.size w2 (w2.alloc (.cells #[] 3)) := (Below.refl _ _).alloc (Nat.le_refl _) _
      have y1 := (ba.cell hfg).trans y0
      have U0 := hide (yr.rd.up ba)
      have BA := hide ba
      rw [hyl] at y1 y0
      rw [hyl] at U0
      clear ba yr
      have HM := hide (mx_start (List.getElem_mem hpos))
      generalize (alL ws)[0] = x0 at *
      go_wp2_with (first
        | (at_builtin; have _t := BA; refine wpList_inAppend rfl _ _ rfl w2.heap.size _ _ [] x0 rfl rfl (unhide R0) (unhide U0) (by rw [hyl]; simp; omega) (unhide BA).size ?_; simp only [List.length_nil, Nat.zero_add, List.nil_append, hyl]; intro a3 c3 w3 r3 g3; have R3 := hide r3; have B3 := hide ((unhide BA).grown g3 (unhide BA).size (fun y hy => (unhide R0).ge y hy)); clear r3 g3 BA R0 U0)
        | fail)
      obtain ⟨g3, rfl, hg3, -⟩ := (unhide R3).place (by omega)
      have hsz2 := (unhide B2).size
      go_loopw [6] (fun iv wr => ∃ (i : Nat) (bs : List Int), i ≤ (alL ws).length ∧ iv = .int .i64 i ∧ Hid (MxTo ws bs i 0) ∧ Hid (InRow w2.heap.size wr (.slice (some ⟨g3, 0, none⟩) ws.length c3) bs) ∧ Hid (Below w2.heap.size w2 wr)) (fun iv _ => (alL ws).length - (intOf iv).toNat)
      case atStart => exact ⟨0, x0, Nat.zero_le _, rfl, HM, R3, B3⟩
      case round =>
        obtain ⟨i, bs, hi, rfl, HM1, HR1, HB1⟩ := hrel
        by_cases hlt : i < (alL ws).length
        · go_wp2_with fail
          go_loopw [7] (fun kv wr => ∃ (k : Nat) (bs : List Int), k ≤ ws.length ∧ kv = .int .i64 k ∧ Hid (MxTo ws bs i k) ∧ Hid (InRow w2.heap.size wr (.slice (some ⟨g3, 0, none⟩) ws.length c3) bs) ∧ Hid (Below w2.heap.size w2 wr)) (fun kv _ => ws.length - (intOf kv).toNat)
          case atStart => exact ⟨0, bs, Nat.zero_le _, rfl, HM1, HR1, HB1⟩
          case round =>
            obtain ⟨k, ds, hk, rfl, HM2, HR2, HB2⟩ := hrel
            by_cases hkl : k < ws.length
            · obtain ⟨fg', za, zc, e, z0, zr⟩ := (unhide F2).at hlt
              simp only [Option.some.injEq, Addr.mk.injEq, and_true] at e
              subst e
              have hzl := unhide HX i hlt
              obtain ⟨gz, rfl, -, hgz⟩ := zr.place (by omega)
              have hdl := (unhide HM2).1
              have c0 := ((unhide HB2).cell hfg).trans z0
              have c1 := ((unhide HB2).cell hgz).trans (zr.cellAt (i := k) (by omega))
              have c2 := (unhide HR2).cellAt (i := k) (by omega)
              have f2 := (unhide HR2).writable k
              rw [hzl] at c0
              clear z0 zr y0 y1
              by_cases hgt : ds.getD k 0 < (alL ws)[i].getD k 0
              · have HM3 := hide (mx_set (unhide HM2) hlt hkl hgt)
                generalize (alL ws)[i].getD k 0 = x at *
                generalize ds.getD k 0 = y at *
                clear hdl hzl
                have r0 : ∀ q : LaterW wr, q.to.cell? ⟨fg, i, none⟩ = some (.slice (some ⟨gz, 0, none⟩) ws.length zc) := fun q => q.cell c0
                have r1 : ∀ q : LaterW wr, q.to.cell? ⟨gz, k, none⟩ = some (.int .i64 x) := fun q => q.cell c1
                have r2 : ∀ q : LaterW wr, q.to.cell? ⟨g3, k, none⟩ = some (.int .i64 y) := fun q => q.cell c2
                go_wp2_with fail
                refine wp_region_later (by kernel_rfl) (by kernel_rfl) ?_
                repeat (go_big_quiet_step (fail))
                refine wpQuiet_nil ?_
                rintro _ ⟨q, rfl⟩
                have HR3 := hide (((unhide HR2).up q.bel).set k x)
                have HB3 := hide (((unhide HB2).trans (q.bel.mono (unhide HB2).size)).setCell (p := ⟨g3, k, none⟩) hg3 (.int .i64 x))
                have d0 := r0 q
                have d1 := r1 q
                have d2 := r2 q
                have f3 : q.to.frozen? ⟨g3, k, none⟩ = false := ((unhide HR2).up q.bel).writable k
                clear r0 r1 r2 c0 c1 c2 f2
                go_wp2_with fail
                go_roundw
                case rel => exact ⟨k + 1, _, by omega, by go_num, HM3, HR3, HB3⟩
                case measure => simp [intOf]; omega
              · have HM3 := hide (mx_keep (unhide HM2) hlt (by omega))
                generalize (alL ws)[i].getD k 0 = x at *
                generalize ds.getD k 0 = y at *
                clear hdl hzl
                have r0 : ∀ q : LaterW wr, q.to.cell? ⟨fg, i, none⟩ = some (.slice (some ⟨gz, 0, none⟩) ws.length zc) := fun q => q.cell c0
                have r1 : ∀ q : LaterW wr, q.to.cell? ⟨gz, k, none⟩ = some (.int .i64 x) := fun q => q.cell c1
                have r2 : ∀ q : LaterW wr, q.to.cell? ⟨g3, k, none⟩ = some (.int .i64 y) := fun q => q.cell c2
                go_wp2_with fail
                refine wp_region_later (by kernel_rfl) (by kernel_rfl) ?_
                repeat (go_big_quiet_step (fail))
                refine wpQuiet_nil ?_
                rintro _ ⟨q, rfl⟩
                have HR3 := hide ((unhide HR2).up q.bel)
                have HB3 := hide ((unhide HB2).trans (q.bel.mono (unhide HB2).size))
                clear r0 r1 r2 c0 c1 c2 f2
                go_wp2_with fail
                go_roundw
                case rel => exact ⟨k + 1, _, by omega, by go_num, HM3, HR3, HB3⟩
                case measure => simp [intOf]; omega
            · obtain rfl : k = ws.length := by omega
              have HM3 := hide (mx_next (unhide HM2))
              go_wp2_with fail
              go_roundw
              case rel => exact ⟨i + 1, ds, by omega, by go_num, HM3, HR2, HB2⟩
              case measure => simp [intOf]; omega
        · obtain rfl : i = (alL ws).length := by omega
          have HE := hide (best_yes (mx_end (unhide HW) (unhide HM1)))
          have HBE := hide ((unhide B2).trans ((unhide HB1).mono hsz2))
          go_wp2_with fail
          refine bodyPost_ret (v := .tuple #[.slice (some ⟨g3, 0, none⟩) ws.length c3, .bool true]) ?_ rfl ?_
          · simp [results, Try.results5, go_sem]
          exact ⟨_, by rw [(unhide HE).2], by rw [(unhide HE).1]; exact hide (unhide HR1).rd, unhide HBE⟩
end Go.Proofs.Ytpiapgjiaeddjaa
