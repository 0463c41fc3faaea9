/-
  StampOk of the program.
-/
import Derived.Test.YtpiapgjiaeddjaaMerged8
import Derived.Test.YtpiapgjiaeddjaaMerged6
set_option linter.unusedVariables false
namespace Go.Proofs.Ytpiapgjiaeddjaa
open Go.RowKit Go.Maps Go.Deep

theorem specStampOk_any (ns : List MarkV) (v : Value) (w : World) (hs : SmallMarkS ns) (h : MarkSRd w v ns) : Calls Try.prog 38 #[v] w fun e w' => e = .returned (.bool (mstampB ns)) ∧ Below w.heap.size w w' :=
  specStamp_any w v ns hs.2 h
set_option maxHeartbeats 1600000 in
theorem markOk_any (z0 : ByteArray) (z1 : Int) (w : World) (hz : z0.size ≤ maxLen) :
    Calls Try.prog 82 #[.agg #[.string z0, .int .i64 z1]] w fun e w' => e = .returned (.bool (markB ⟨z0, z1⟩)) ∧ Below w.heap.size w w' := by
  have HP := hide (fun W => implPlain_any z0 W hz)
  clear hz
  rcases mark_cases ⟨z0, z1⟩ with ⟨hv, p1, p2, p3⟩ | ⟨hv, hcase⟩
  · rw [hv]
    simp only at p1 p2 p3
    rw [p1] at HP
    clear hv
    go_enter Try.func82, Try.ntmps82
    go_wp2_with fail
    refine (unhide HP _).mono ?_
    rintro e w1 ⟨rfl, b1⟩
    obtain ⟨e0, e1⟩ := vbox b1
    have B1 := hide (Below.trans (by go_grown : Below w.heap.size w _) (b1.mono (by simp)))
    clear b1
    go_wp2_with fail
    go_ret
    exact ⟨ret_bool (by simp <;> omega), unhide B1⟩
  · rw [hv]
    clear hv
    simp only at hcase
    rcases hcase with p1 | ⟨p1, p2⟩ | ⟨p1, p2, p3⟩
    all_goals
      rw [p1] at HP
      go_enter Try.func82, Try.ntmps82
      go_wp2_with fail
      refine (unhide HP _).mono ?_
      rintro e w1 ⟨rfl, b1⟩
      obtain ⟨e0, e1⟩ := vbox b1
      have B1 := hide (Below.trans (by go_grown : Below w.heap.size w _) (b1.mono (by simp)))
      clear b1
      go_wp2_with fail
      go_ret
      exact ⟨ret_bool (by simp <;> omega), unhide B1⟩
set_option maxHeartbeats 6400000 in
theorem implStamp_row (w : World) (b off c : Nat) (ns : List MarkV) (h12 : (ns.length : Int) ≤ 12) (hc : MarkAt w b off ns) (hb : b < w.heap.size) (hs : MarkOk ns) :
    Calls Try.prog 67 #[.slice (some ⟨b, off, none⟩) ns.length c] w fun e w' => e = .returned (.bool (mstampB ns)) ∧ Below w.heap.size w w' := by
  have HS := hide hs
  have HC := hide hc
  have g12 : ¬ 12 < (ns.length : Int) := by omega
  clear hs hc
  go_enter Try.func67, Try.ntmps67
  go_wp2_with fail
  go_loopw [10] (fun i wr => ∃ k : Nat, k ≤ ns.length ∧ i = .int .i64 k ∧ Hid (MStampTo ns k) ∧ Hid (Below w.heap.size w wr)) (fun i _ => ns.length - (intOf i).toNat)
  case atStart => exact ⟨0, Nat.zero_le _, rfl, mstamp_zero ns, Below.refl _ _⟩
  case round =>
    obtain ⟨k, hk, rfl, HG, HBr⟩ := hrel
    by_cases hlt : k < ns.length
    · have HCr := hide ((unhide HC).below (unhide HBr) hb)
      obtain ⟨c0, c1⟩ := unhide HCr k hlt
      have hname := hide (unhide HS _ (List.getElem_mem hlt)).1
      have HP := hide (fun W => markOk_any ns[k].a0 ns[k].a1 W (unhide hname))
      cases hv : markB ns[k]
      · have HP2 : Hid (∀ W : World, Calls Try.prog 82 #[.agg #[.string ns[k].a0, .int .i64 ns[k].a1]] W fun e w' => e = .returned (.bool false) ∧ Below W.heap.size W w') := by
          have := unhide HP
          rw [show (⟨ns[k].a0, ns[k].a1⟩ : MarkV) = ns[k] from rfl, hv] at this
          exact this
        clear HP
        have HR := hide (mstamp_bad hlt hv).symm
        clear hv
        generalize ns[k].a0 = nm at *
        generalize ns[k].a1 = vl at *
        obtain ⟨bx, bb, zz⟩ := boxNew2 wr (.string nm) (.int .i64 vl) 62
        go_wp2_with fail
        generalize wr.alloc (.cells #[.string nm, .int .i64 vl] 62) = W at *
        have BX := hide bx
        have BW := hide bb
        clear bx bb zz
        have r0 : ∀ x : LaterW W, x.to.cell? ⟨wr.heap.size, 0, none⟩ = some (.string nm) := fun x => x.cell (unhide BX).two.1
        have r1 : ∀ x : LaterW W, x.to.cell? ⟨wr.heap.size, 1, none⟩ = some (.int .i64 vl) := fun x => x.cell (unhide BX).two.2
        refine wp_region_later (by kernel_rfl) (by kernel_rfl) ?_
        repeat (go_big_quiet_step ((go_at_call 82; exact quiet_ret (unhide HP2 _))))
        refine wpQuiet_nil ?_
        rintro _ ⟨x, rfl⟩
        obtain ⟨w1, BB⟩ := x
        dsimp only
        clear r0 r1
        have B1 := hide ((unhide HBr).trans (Below.mono ((unhide BW).trans (BB.mono (unhide BW).size)) (unhide HBr).size))
        go_wp2_with fail
        go_ret
        exact ⟨ret_bool (unhide HR), unhide B1⟩
      · have HP2 : Hid (∀ W : World, Calls Try.prog 82 #[.agg #[.string ns[k].a0, .int .i64 ns[k].a1]] W fun e w' => e = .returned (.bool true) ∧ Below W.heap.size W w') := by
          have := unhide HP
          rw [show (⟨ns[k].a0, ns[k].a1⟩ : MarkV) = ns[k] from rfl, hv] at this
          exact this
        clear HP
        by_cases hk0 : k = 0
        · have HG2 := hide (show MStampTo ns (k + 1) by subst hk0; exact mstamp_step0 hlt hv)
          have d0 : decide (0 < k) = false := by simp; omega
          clear hv hk0
          generalize ns[k].a0 = nm at *
          generalize ns[k].a1 = vl at *
          obtain ⟨bx, bb, zz⟩ := boxNew2 wr (.string nm) (.int .i64 vl) 62
          go_wp2_with fail
          generalize wr.alloc (.cells #[.string nm, .int .i64 vl] 62) = W at *
          have BX := hide bx
          have BW := hide bb
          clear bx bb zz
          have r0 : ∀ x : LaterW W, x.to.cell? ⟨wr.heap.size, 0, none⟩ = some (.string nm) := fun x => x.cell (unhide BX).two.1
          have r1 : ∀ x : LaterW W, x.to.cell? ⟨wr.heap.size, 1, none⟩ = some (.int .i64 vl) := fun x => x.cell (unhide BX).two.2
          refine wp_region_later (by kernel_rfl) (by kernel_rfl) ?_
          repeat (go_big_quiet_step ((go_at_call 82; exact quiet_ret (unhide HP2 _))))
          refine wpQuiet_nil ?_
          rintro _ ⟨x, rfl⟩
          obtain ⟨w1, BB⟩ := x
          dsimp only
          clear r0 r1
          have B1 := hide ((unhide HBr).trans (Below.mono ((unhide BW).trans (BB.mono (unhide BW).size)) (unhide HBr).size))
          go_wp2_with fail
          go_roundw
          case rel => exact ⟨k + 1, by omega, by go_num, HG2, hide (unhide B1)⟩
          case measure => simp [intOf]; omega
        · obtain ⟨j, hj⟩ : ∃ j, k = j + 1 := ⟨k - 1, by omega⟩
          have hjl : j < ns.length := by omega
          have HUP := hide (show lessS ns[j].a0 ns[k].a0 = true → MStampTo ns (k + 1) by subst hj; exact mstamp_step hlt (unhide HG) hv)
          have HDN := hide (show lessS ns[j].a0 ns[k].a0 = false → false = mstampB ns by subst hj; exact fun h => (mstamp_down hlt h).symm)
          have HJ := hide (fun X (bx : Below w.heap.size w X) => ((unhide HC).below bx hb j hjl).1)
          have hsub : (k : Int) - 1 = (j : Int) := by omega
          have hwr : IntKind.i64.wrap (j : Int) = (j : Int) := wrap_small _ (by omega) (by omega)
          have d0 : decide (0 < k) = true := by simp; omega
          have d1 : (j : Int) < (ns.length : Int) := by omega
          have HLE := hide (geq_leq ns[k].a0 ns[j].a0)
          clear hv hj hk0
          generalize ns[k].a0 = nm at *
          generalize ns[k].a1 = vl at *
          generalize ns[j].a0 = nj at *
          obtain ⟨bx, bb, zz⟩ := boxNew2 wr (.string nm) (.int .i64 vl) 62
          go_wp2_with fail
          generalize wr.alloc (.cells #[.string nm, .int .i64 vl] 62) = W at *
          have BX := hide bx
          have BW := hide bb
          clear bx bb zz
          have r0 : ∀ x : LaterW W, x.to.cell? ⟨wr.heap.size, 0, none⟩ = some (.string nm) := fun x => x.cell (unhide BX).two.1
          have r1 : ∀ x : LaterW W, x.to.cell? ⟨wr.heap.size, 1, none⟩ = some (.int .i64 vl) := fun x => x.cell (unhide BX).two.2
          have r2 : ∀ x : LaterW W, x.to.cell? ⟨b, off + j * 2, none⟩ = some (.string nj) := fun x => x.cell (unhide HJ W ((unhide HBr).trans ((unhide BW).mono (unhide HBr).size)))
          refine wp_region_later (by kernel_rfl) (by kernel_rfl) ?_
          repeat (go_big_quiet_step ((go_at_call 82; exact quiet_ret (unhide HP2 _))))
          refine wpQuiet_nil ?_
          rintro _ ⟨x, rfl⟩
          obtain ⟨w1, BB⟩ := x
          dsimp only
          clear r0 r1 r2
          have B1 := hide ((unhide HBr).trans (Below.mono ((unhide BW).trans (BB.mono (unhide BW).size)) (unhide HBr).size))
          rw [unhide HLE]
          cases hless : lessS nj nm
          · go_wp2_with fail
            go_ret
            exact ⟨ret_bool (unhide HDN hless), unhide B1⟩
          · have HG2 := hide (unhide HUP hless)
            go_wp2_with fail
            go_roundw
            case rel => exact ⟨k + 1, by omega, by go_num, HG2, hide (unhide B1)⟩
            case measure => simp [intOf]; omega
    · have e : k = ns.length := by omega
      have HR := hide (show true = mstampB ns from (mstamp_good (by omega) (by rw [e] at HG; exact unhide HG)).symm)
      clear e
      go_wp2_with fail
      go_ret
      exact ⟨ret_bool (unhide HR), unhide HBr⟩
theorem implStamp_none (w : World) (a : Option Addr) (cap : Nat) : Calls Try.prog 67 #[.slice a 0 cap] w fun e w' => e = .returned (.bool (mstampB [])) ∧ Below w.heap.size w w' := by
  go_enter Try.func67, Try.ntmps67
  go_wp2_with fail
  refine wp_loop_rounds 1 ?_
  rw [rounds_succ]
  go_wp2_with fail
  go_ret
  exact ⟨rfl, Below.refl _ _⟩
theorem implStamp_long (w : World) (a : Option Addr) (cap : Nat) (ns : List MarkV) (hl : ¬ (ns.length : Int) ≤ 12) : Calls Try.prog 67 #[.slice a ns.length cap] w fun e w' => e = .returned (.bool (mstampB ns)) ∧ Below w.heap.size w w' := by
  have HR := hide (show false = mstampB ns from (mstamp_long (by omega)).symm)
  have g : 12 < (ns.length : Int) := by omega
  generalize ns.length = n at *
  go_enter Try.func67, Try.ntmps67
  go_wp2_with fail
  go_ret
  exact ⟨ret_bool (unhide HR), Below.refl _ _⟩
theorem implStampOk_any (ns : List MarkV) (v : Value) (w : World) (hs : SmallMarkS ns) (h : MarkSRd w v ns) : Calls Try.prog 67 #[v] w fun e w' => e = .returned (.bool (mstampB ns)) ∧ Below w.heap.size w w' := by
  obtain ⟨a, c, rfl, h⟩ := h
  by_cases hl : (ns.length : Int) ≤ 12
  · rcases h with rfl | ⟨b, off, rfl, hb, hc⟩
    · exact implStamp_none w a c
    · exact implStamp_row w b off c ns hl hc hb hs.2
  · exact implStamp_long w a c ns hl
end Go.Proofs.Ytpiapgjiaeddjaa
