/-
  sideBySide as a whole: what its value hands to a loop's body.
-/
/-
  StampOk of the specification.
-/
import Derived.Test.YtpiapgjiaeddjaaSideIter
import Derived.Test.YtpiapgjiaeddjaaMerged4
import Derived.Test.YtpiapgjiaeddjaaMarkRowsOwn
import Derived.BigQuiet
import Derived.Deep.QuietTactic
import Derived.Handy
import Derived.Laws.Cover1
set_option linter.unusedVariables false
namespace Go.Proofs.Ytpiapgjiaeddjaa
open Go.RowKit Go.Maps Go.Deep Go.Shelf

attribute [local go_sem] Oper.semAt_some

set_option maxHeartbeats 1000000 in
theorem side_in (n : Nat) (a b : Option Addr) (la ca lb cb : Nat) (w : World) :
    CallsIn Fence.wide n Try.prog 96 #[.slice a la ca, .slice b lb cb] w fun e w' => e = .returned (.func (.func 98) #[] #[.pointer (some ⟨w.heap.size, 0, none⟩), .pointer (some ⟨w.heap.size + 1, 0, none⟩)]) ∧ w' = (w.alloc (.cells #[.slice a la ca] 53)).alloc (.cells #[.slice b lb cb] 53) := by
  refine callsIn_of_wp Try.func96 rfl trivial ?_ rfl
  simp only [Try.ntmps96, List.size_toArray, List.length_cons, List.length_nil, Nat.reduceAdd, Nat.reduceSub, Array.replicate_succ, Array.replicate_zero, List.push_toArray, List.append_toArray, List.nil_append, List.cons_append]
  gi_wp2
  go_ret
  exact ⟨rfl, rfl⟩
theorem abides_below {α : Type} {B : Nat} {J : List α → World → Prop} (h : AbidesFrom B J) : ∀ pre X Y, J pre X → Below X.heap.size X Y → J pre Y :=
  fun pre X Y hJ hb => h pre X Y none hJ ⟨hb.os, hb.tape, hb.output, hb.size, fun k hk _ => hb.block k hk⟩ (fun r e => by cases e)
/-- sideBySide hands back a value that stops: all pairs, or a beginning of them -/
theorem side_stops (n : Nat) (hn : 1 ≤ n) (Ba Bb n₀ : Nat) (aa ab : Option Addr) (ca cb : Nat) (xa xb : List MarkV) (hla : xa.length ≤ 12) (hlb : xb.length ≤ 12) (S : List Nat) (hBa : Ba < n₀) (hBb : Bb < n₀) (hSa : Ba ∉ S) (hSb : Bb ∉ S) (w : World) (hn₀ : n₀ ≤ w.heap.size)
    (cA : w.cell? ⟨Ba, 0, none⟩ = some (.slice aa xa.length ca)) (cB : w.cell? ⟨Bb, 0, none⟩ = some (.slice ab xb.length cb)) (rA : MarkLow n₀ S w aa xa) (rB : MarkLow n₀ S w ab xb) :
    SeqStopsK Fence.wide n Try.prog 98 #[.pointer (some ⟨Ba, 0, none⟩), .pointer (some ⟨Bb, 0, none⟩)] encM (Keep n₀ S) (fun ys => ys = sideL xa xb)
      (fun pre => pre <+: sideL xa xb) (xa.length + xb.length) w := fun l J Jx W hW hJ _ hY h0 => by
  have hW' := hW.mono hn₀
  refine side1_in n hn l Ba Bb n₀ aa ab ca cb xa xb hla hlb S hBa hBb hSa hSb J Jx (abides_below hJ) (fun pre x W _ => hY pre x W) W (Nat.le_trans hn₀ hW.size) ((hW'.cell (p := ⟨Ba, 0, none⟩) hBa).trans cA) ((hW'.cell (p := ⟨Bb, 0, none⟩) hBb).trans cB) ?_ ?_ h0
  · rcases rA with h | ⟨b, off, e, hb, hc⟩
    · exact .inl h
    · exact .inr ⟨b, off, e, hb, hc.below hW' hb.1⟩
  · rcases rB with h | ⟨b, off, e, hb, hc⟩
    · exact .inl h
    · exact .inr ⟨b, off, e, hb, hc.below hW' hb.1⟩
/-- a pair whose texts are not too long -/
def MPair : Type := { p : MarkV × MarkV // p.1.a0.size ≤ 1048576 ∧ p.2.a0.size ≤ 1048576 }
/-- the same, told of such pairs alone -/
theorem side_stopsB (n : Nat) (hn : 1 ≤ n) (Ba Bb n₀ : Nat) (aa ab : Option Addr) (ca cb : Nat) (xa xb : List MarkV) (hla : xa.length ≤ 12) (hlb : xb.length ≤ 12) (S : List Nat) (hBa : Ba < n₀) (hBb : Bb < n₀) (hSa : Ba ∉ S) (hSb : Bb ∉ S) (w : World) (hn₀ : n₀ ≤ w.heap.size)
    (cA : w.cell? ⟨Ba, 0, none⟩ = some (.slice aa xa.length ca)) (cB : w.cell? ⟨Bb, 0, none⟩ = some (.slice ab xb.length cb)) (rA : MarkLow n₀ S w aa xa) (rB : MarkLow n₀ S w ab xb) (hsm : ∀ p ∈ sideL xa xb, p.1.a0.size ≤ 1048576 ∧ p.2.a0.size ≤ 1048576) :
    SeqStopsK Fence.wide n Try.prog 98 #[.pointer (some ⟨Ba, 0, none⟩), .pointer (some ⟨Bb, 0, none⟩)] (fun x : MPair => encM x.1) (Keep n₀ S) (fun ys => ys.map (fun x : MPair => x.1) = sideL xa xb)
      (fun pre => pre.map (fun x : MPair => x.1) <+: sideL xa xb) (xa.length + xb.length) w := fun l J Jx W hW hJ _ hY h0 => by
  have hW' := hW.mono hn₀
  refine (side1_in n hn l Ba Bb n₀ aa ab ca cb xa xb hla hlb S hBa hBb hSa hSb (fun pre W => ∃ ps : List MPair, ps.map (fun x : MPair => x.1) = pre ∧ J ps W) (fun pre W => ∃ ps : List MPair, ps.map (fun x : MPair => x.1) = pre ∧ Jx ps W) ?_ ?_ W (Nat.le_trans hn₀ hW.size) ((hW'.cell (p := ⟨Ba, 0, none⟩) hBa).trans cA) ((hW'.cell (p := ⟨Bb, 0, none⟩) hBb).trans cB) ?_ ?_ ⟨[], rfl, h0⟩).mono ?_
  · rintro pre X Y ⟨ps, h1, h2⟩ hb
    exact ⟨ps, h1, abides_below hJ ps X Y h2 hb⟩
  · rintro pre x W1 hx ⟨ps, rfl, h2⟩ hlen
    obtain ⟨fn, tmps, assign, body, hy, hR⟩ := hY ps ⟨x, hsm x hx⟩ W1 h2 (by simpa using hlen)
    refine ⟨fn, tmps, assign, body, hy, hR.mono ?_⟩
    rintro e W2 (⟨h3, h4, h5⟩ | ⟨h3, h4⟩)
    · exact .inl ⟨h3, ⟨ps ++ [⟨x, hsm x hx⟩], by rw [List.map_append]; rfl, h4⟩, h5⟩
    · exact .inr ⟨h3, ps ++ [⟨x, hsm x hx⟩], by rw [List.map_append]; rfl, h4⟩
  · rcases rA with h | ⟨b, off, e, hb, hc⟩
    · exact .inl h
    · exact .inr ⟨b, off, e, hb, hc.below hW' hb.1⟩
  · rcases rB with h | ⟨b, off, e, hb, hc⟩
    · exact .inl h
    · exact .inr ⟨b, off, e, hb, hc.below hW' hb.1⟩
  · rintro e W2 ⟨h1, (⟨ys, h2, ps, h3, h4⟩ | ⟨pre, h2, ps, h3, h4⟩)⟩
    · exact ⟨h1, .inl ⟨ps, h3.trans h2, h4⟩⟩
    · exact ⟨h1, .inr ⟨ps, by show ps.map (fun x : MPair => x.1) <+: sideL xa xb; rw [h3]; exact h2, h4⟩⟩
end Go.Proofs.Ytpiapgjiaeddjaa

set_option linter.unusedVariables false
namespace Go.Proofs.Ytpiapgjiaeddjaa
open Go.RowKit Go.Maps Go.Deep

set_option maxHeartbeats 3200000 in
theorem specStamp_row (w : World) (b off cap : Nat) (ns : List MarkV) (hl : (ns.length : Int) ≤ 12) (hc : MarkAt w b off ns) (hb : b < w.heap.size) (hs : MarkOk ns) :
    Calls Try.prog 38 #[.slice (some ⟨b, off, none⟩) ns.length cap] w fun e w' => e = .returned (.bool (mstampB ns)) ∧ Below w.heap.size w w' := by
  have HS := hide hs
  have HC := hide hc
  have g12 : ¬ 12 < (ns.length : Int) := by omega
  clear hs hc
  go_enter Try.func38, Try.ntmps38
  go_wp2_with fail
  go_loopw [3] (fun i wr => ∃ k : Nat, k ≤ ns.length ∧ i = .int .i64 k ∧ Hid (MStampTo ns k) ∧ Hid (Below w.heap.size w wr)) (fun i _ => ns.length - (intOf i).toNat)
  case atStart => exact ⟨0, Nat.zero_le _, rfl, mstamp_zero ns, Below.refl _ _⟩
  case round =>
    obtain ⟨k, hk, rfl, HG, HBr⟩ := hrel
    by_cases hlt : k < ns.length
    · obtain ⟨c0, c1⟩ := unhide HC k hlt
      rw [← (unhide HBr).cell (by exact hb)] at c0 c1
      have hname := hide (unhide HS _ (List.getElem_mem hlt)).1
      have HP := hide (fun W => specPlain13_any ns[k].a0 W (unhide hname))
      rcases mark_cases ns[k] with ⟨hv, p1, p2, p3⟩ | ⟨hv, hcase⟩
      · rw [p1] at HP
        by_cases hk0 : k = 0
        · have HG2 := hide (show MStampTo ns (k + 1) by subst hk0; exact mstamp_step0 hlt hv)
          have d0 : decide (0 < k) = false := by simp; omega
          clear hv hk0
          generalize ns[k].a0 = nm at *
          generalize ns[k].a1 = vl at *
          go_wp2_with fail
          refine (unhide HP _).mono ?_
          rintro e w1 ⟨rfl, hw⟩
          rw [hw]
          clear hw
          go_wp2_with fail
          go_quiet (fail)
          go_wp2_with fail
          go_roundw
          case rel => exact ⟨k + 1, by omega, by go_num, HG2, hide ((unhide HBr).trans ((belowN _ _).mono (unhide HBr).size))⟩
          case measure => simp [intOf]; omega
        · obtain ⟨j, hj⟩ : ∃ j, k = j + 1 := ⟨k - 1, by omega⟩
          have hjl : j < ns.length := by omega
          obtain ⟨e0, e1⟩ := unhide HC j hjl
          rw [← (unhide HBr).cell (by exact hb)] at e0 e1
          have HUP := hide (show lessS ns[j].a0 ns[k].a0 = true → MStampTo ns (k + 1) by subst hj; exact mstamp_step hlt (unhide HG) hv)
          have HDN := hide (show lessS ns[j].a0 ns[k].a0 = false → false = mstampB ns by subst hj; exact fun h => (mstamp_down hlt h).symm)
          unfold lessS at HUP HDN
          have hsub : (k : Int) - 1 = (j : Int) := by omega
          have hwr : IntKind.i64.wrap (j : Int) = (j : Int) := wrap_small _ (by omega) (by omega)
          have d0 : decide (0 < k) = true := by simp; omega
          have d1 : (j : Int) < (ns.length : Int) := by omega
          have d2 : (k : Int) < (ns.length : Int) := by omega
          clear hv hj hk0
          generalize ns[k].a0 = nm at *
          generalize ns[k].a1 = vl at *
          generalize ns[j].a0 = nj at *
          generalize ns[j].a1 = vj at *
          go_wp2_with fail
          refine (unhide HP _).mono ?_
          rintro e w1 ⟨rfl, hw⟩
          rw [hw]
          clear hw
          go_wp2_with fail
          go_quiet (fail)
          cases hless : Op.bytesLess nj.toList nm.toList
          · go_wp2_with fail
            go_ret
            exact ⟨ret_bool (unhide HDN hless), (unhide HBr).trans ((belowN _ _).mono (unhide HBr).size)⟩
          · have HG2 := hide (unhide HUP hless)
            go_wp2_with fail
            go_roundw
            case rel => exact ⟨k + 1, by omega, by go_num, HG2, hide ((unhide HBr).trans ((belowN _ _).mono (unhide HBr).size))⟩
            case measure => simp [intOf]; omega
      · have HR := hide (mstamp_bad hlt hv).symm
        clear hv
        generalize ns[k].a0 = nm at *
        generalize ns[k].a1 = vl at *
        rcases hcase with p1 | ⟨p1, p2⟩ | ⟨p1, p2, p3⟩
        all_goals
          rw [p1] at HP
          go_wp2_with fail
          refine (unhide HP _).mono ?_
          rintro e w1 ⟨rfl, hw⟩
          rw [hw]
          clear hw
          go_wp2_with fail
          go_ret
          exact ⟨ret_bool (unhide HR), unhide HBr⟩
    · have e : k = ns.length := by omega
      have HR := hide (show true = mstampB ns from (mstamp_good (by omega) (by rw [e] at HG; exact unhide HG)).symm)
      clear e
      go_wp2_with fail
      go_ret
      exact ⟨ret_bool (unhide HR), unhide HBr⟩
theorem specStamp_none (w : World) (a : Option Addr) (cap : Nat) : Calls Try.prog 38 #[.slice a 0 cap] w fun e w' => e = .returned (.bool (mstampB [])) ∧ Below w.heap.size w w' := by
  go_enter Try.func38, Try.ntmps38
  go_wp2_with fail
  refine wp_loop_rounds 1 ?_
  rw [rounds_succ]
  go_wp2_with fail
  go_ret
  exact ⟨rfl, Below.refl _ _⟩
theorem specStamp_long (w : World) (a : Option Addr) (cap : Nat) (ns : List MarkV) (hl : ¬ (ns.length : Int) ≤ 12) : Calls Try.prog 38 #[.slice a ns.length cap] w fun e w' => e = .returned (.bool (mstampB ns)) ∧ Below w.heap.size w w' := by
  have HR := hide (show false = mstampB ns from (mstamp_long (by omega)).symm)
  have g : 12 < (ns.length : Int) := by omega
  generalize ns.length = n at *
  go_enter Try.func38, Try.ntmps38
  go_wp2_with fail
  go_ret
  exact ⟨ret_bool (unhide HR), Below.refl _ _⟩
theorem specStamp_any (w : World) (v : Value) (ns : List MarkV) (hs : MarkOk ns) (h : MarkSRd w v ns) : Calls Try.prog 38 #[v] w fun e w' => e = .returned (.bool (mstampB ns)) ∧ Below w.heap.size w w' := by
  obtain ⟨a, c, rfl, h⟩ := h
  by_cases hl : (ns.length : Int) ≤ 12
  · rcases h with rfl | ⟨b, off, rfl, hb, hc⟩
    · exact specStamp_none w a c
    · exact specStamp_row w b off c ns hl hc hb hs
  · exact specStamp_long w a c ns hl
end Go.Proofs.Ytpiapgjiaeddjaa
