/-
  StampText of the specification.
-/
import Derived.Test.YteonbigmggeneaaDoorTextMath
import Derived.Test.YteonbigmggeneaaDoorStampI
set_option linter.unusedVariables false
namespace Go.Proofs.YteonbigmggeneaaDoor
open Go.RowKit Go.Maps Go.Deep

set_option maxHeartbeats 3200000 in
theorem specText_row (w : World) (b off cap : Nat) (ns : List MarkV) (hm : mstampB ns = true) (h0 : 0 < ns.length) (hs : SmallMarkS ns) (hc : MarkAt w b off ns) (hb : b < w.heap.size) :
    Calls Tryd.prog 7 #[.slice (some ⟨b, off, none⟩) ns.length cap] w fun e w' => e = .returned (.string (stampT ns)) ∧ Below w.heap.size w w' := by
  have HO := hide (specStampOk_any ns _ w hs ⟨_, cap, rfl, .inr ⟨b, off, rfl, hb, hc⟩⟩)
  rw [hm] at HO
  have h12 : (ns.length : Int) ≤ 12 := by have := (mark_good hm).1; omega
  have HX := hide (mark_good hm).2
  have HT := hide (fun k => textTo_size hm k)
  have HC := hide hc
  have n0 : ((ns.length : Int) == 0) = false := by rw [beq_eq_false_iff_ne]; omega
  clear hm hs hc
  go_enter Tryd.func7, Tryd.ntmps7
  go_wp2_with fail
  refine (unhide HO).mono ?_
  rintro e w1 ⟨rfl, b1⟩
  have B1 := hide b1
  clear b1 HO
  go_wp2_with fail
  go_loopw [3, 4] (fun o i wr => ∃ (k : Nat) (out : ByteArray), k ≤ ns.length ∧ i = .int .i64 k ∧ o = .string out ∧ Hid (out = textTo ns k) ∧ Hid (Below w.heap.size w wr)) (fun _ i _ => ns.length - (intOf i).toNat)
  case atStart => exact ⟨0, _, Nat.zero_le _, rfl, rfl, rfl, B1⟩
  case round =>
    obtain ⟨k, out, hk, rfl, rfl, HG, HBr⟩ := hrel
    have ho : (out.size : Int) ≤ 360 := by rw [unhide HG]; have := unhide HT k; omega
    by_cases hlt : k < ns.length
    · have hx := unhide HX _ (List.getElem_mem hlt)
      have hn : (ns[k].a0.size : Int) ≤ 8 := by omega
      have hd : ((itoaB ns[k].a1).size : Int) ≤ 20 := by have := itoaB_size ns[k].a1 (by omega) (by omega); omega
      have HD := hide (fun W => l13Dec_ver ns[k].a1 hx.2.1 hx.2.2 W)
      obtain ⟨c0, c1⟩ := (unhide HC).below (unhide HBr) hb k hlt
      have HN := hide (show (k = 0 → out ++ ns[k].a0 ++ ⟨#[58]⟩ ++ itoaB ns[k].a1 = textTo ns (k + 1)) ∧ (0 < k → out ++ ⟨#[32]⟩ ++ ns[k].a0 ++ ⟨#[58]⟩ ++ itoaB ns[k].a1 = textTo ns (k + 1)) from ⟨fun e => by subst e; rw [textTo_first ns hlt, unhide HG]; rfl, fun e => by rw [textTo_next ns k hlt e, unhide HG]⟩)
      clear hx HG
      generalize ns[k].a0 = nm at *
      generalize ns[k].a1 = vl at *
      generalize itoaB vl = dv at *
      have r0 : ∀ x : LaterW wr, x.to.cell? ⟨b, off + k * 2, none⟩ = some (.string nm) := fun x => x.cell c0
      have r1 : ∀ x : LaterW wr, x.to.cell? ⟨b, off + k * 2 + 1, none⟩ = some (.int .i64 vl) := fun x => x.cell c1
      clear c0 c1
      by_cases hk0 : k = 0
      · have HG2 := hide ((unhide HN).1 hk0)
        have d0 : decide (0 < k) = false := by simp; omega
        have a0 : ¬ 9223372036854775807 < out.size + nm.size := by omega
        have a1 : ¬ 9223372036854775807 < out.size + nm.size + 1 := by omega
        have a2 : ¬ 9223372036854775807 < out.size + nm.size + 1 + dv.size := by omega
        clear HN hk0
        go_wp2_with fail
        refine wp_region_later (by kernel_rfl) (by kernel_rfl) ?_
        repeat (go_big_quiet_step ((go_at_call 21; exact quiet_ret (unhide HD _))))
        refine wpQuiet_nil ?_
        rintro _ ⟨x, rfl⟩
        obtain ⟨w2, BB⟩ := x
        dsimp only
        clear r0 r1
        have B2 := hide ((unhide HBr).trans (Below.mono BB (unhide HBr).size))
        go_wp2_with fail
        go_roundw
        case rel => exact ⟨k + 1, _, by omega, by go_num, rfl, HG2, B2⟩
        case measure => simp [intOf]; omega
      · have HG2 := hide ((unhide HN).2 (by omega))
        have d0 : decide (0 < k) = true := by simp; omega
        have a0 : ¬ 9223372036854775807 < out.size + 1 + nm.size := by omega
        have a1 : ¬ 9223372036854775807 < out.size + 1 + nm.size + 1 := by omega
        have a2 : ¬ 9223372036854775807 < out.size + 1 + nm.size + 1 + dv.size := by omega
        clear HN hk0
        go_wp2_with fail
        refine wp_region_later (by kernel_rfl) (by kernel_rfl) ?_
        repeat (go_big_quiet_step ((go_at_call 21; exact quiet_ret (unhide HD _))))
        refine wpQuiet_nil ?_
        rintro _ ⟨x, rfl⟩
        obtain ⟨w2, BB⟩ := x
        dsimp only
        clear r0 r1
        have B2 := hide ((unhide HBr).trans (Below.mono BB (unhide HBr).size))
        go_wp2_with fail
        go_roundw
        case rel => exact ⟨k + 1, _, by omega, by go_num, rfl, HG2, B2⟩
        case measure => simp [intOf]; omega
    · have e : k = ns.length := by omega
      have HR := hide (show out = stampT ns by rw [unhide HG, e]; exact textTo_all ns)
      clear e
      go_wp2_with fail
      go_ret
      exact ⟨by rw [← unhide HR]; rfl, unhide HBr⟩
theorem specText_bad (w : World) (v : Value) (ns : List MarkV) (hm : mstampB ns = false) (hs : SmallMarkS ns) (h : MarkSRd w v ns) :
    Calls Tryd.prog 7 #[v] w fun e w' => e = .returned (.string ⟨#[]⟩) ∧ Below w.heap.size w w' := by
  have HO := hide (specStampOk_any ns v w hs h)
  rw [hm] at HO
  obtain ⟨a, n, c, rfl⟩ := h.form
  clear hm hs h
  go_enter Tryd.func7, Tryd.ntmps7
  go_wp2_with fail
  refine (unhide HO).mono ?_
  rintro e w1 ⟨rfl, b1⟩
  have B1 := hide b1
  clear b1 HO
  go_wp2_with fail
  go_ret
  exact ⟨rfl, unhide B1⟩
theorem specText_none (w : World) (a : Option Addr) (c : Nat) :
    Calls Tryd.prog 7 #[.slice a 0 c] w fun e w' => e = .returned (.string ⟨#[45]⟩) ∧ Below w.heap.size w w' := by
  have HO := hide (specStamp_none w a c)
  rw [show mstampB [] = true from rfl] at HO
  go_enter Tryd.func7, Tryd.ntmps7
  go_wp2_with fail
  refine (unhide HO).mono ?_
  rintro e w1 ⟨rfl, b1⟩
  have B1 := hide b1
  clear b1 HO
  go_wp2_with fail
  go_ret
  exact ⟨rfl, unhide B1⟩
theorem specText_any (ns : List MarkV) (v : Value) (w : World) (hs : SmallMarkS ns) (h : MarkSRd w v ns) :
    Calls Tryd.prog 7 #[v] w fun e w' => e = .returned (.string (textOut ns)) ∧ Below w.heap.size w w' := by
  unfold textOut
  cases hm : mstampB ns
  · exact specText_bad w v ns hm hs h
  · obtain ⟨a, c, rfl, h⟩ := h
    by_cases h0 : ns.length = 0
    · have : ns = [] := List.eq_nil_of_length_eq_zero h0
      subst this
      exact specText_none w a c
    · rcases h with rfl | ⟨b, off, rfl, hb, hc⟩
      · exact absurd rfl h0
      · simp only [if_neg h0, if_true]
        exact specText_row w b off c ns hm (by omega) hs hc hb
end Go.Proofs.YteonbigmggeneaaDoor
