/-
  What a reader has read so far, held against the whole reading.
-/
/-
  The specification's SayOk.
-/
import Derived.Test.YtlgmmibncoedgaaSayRdS
import Derived.Test.YtlgmmibncoedgaaMerged2
import Derived.BigQuiet
import Derived.Deep.QuietTactic
import Derived.Handy
import Derived.Laws.Cover1
set_option linter.unusedVariables false
namespace Go.Proofs.Ytlgmmibncoedgaa
open Go.RowKit Go.Maps Go.Deep

/-- the whole comes to Y, or there were too few bytes and it comes to none -/
def Track {α : Type} (X : Option α) (bad : Bool) (Y : Option α) : Prop := (bad = false ∧ X = Y) ∨ (bad = true ∧ X = none)
theorem track_num {α : Type} {X : Option α} {bs : List UInt8} {p : Nat} {bad : Bool} {n : Nat} {x : Int} {p' : Nat} {bad' : Bool} {F : Int × List UInt8 → Option α} (hp : p ≤ bs.length) (hs : StepN bs p bad n x p' bad') (h : Track X bad ((rdN n (bs.drop p)).bind F)) : Track X bad' (F (x, bs.drop p')) := by
  rcases hs with ⟨rfl, h1, rfl, rfl, rfl⟩ | ⟨h1, rfl, rfl, rfl⟩
  · rcases h with ⟨_, h⟩ | ⟨h, _⟩
    · rw [rdN_much (by simp; omega), List.drop_drop] at h
      exact .inl ⟨rfl, h⟩
    · cases h
  · refine .inr ⟨rfl, ?_⟩
    rcases h with ⟨rfl, h⟩ | ⟨_, h⟩
    · rcases h1 with h1 | h1
      · cases h1
      · rw [h, rdN_few (by simp; omega)]
        rfl
    · exact h
theorem track_text {α : Type} {X : Option α} {bs : List UInt8} {p : Nat} {bad : Bool} {s : ByteArray} {p' : Nat} {bad' : Bool} {F : ByteArray × List UInt8 → Option α} (hs : StepT bs p bad s p' bad') (h : Track X bad ((rdT (bs.drop p)).bind F)) : Track X bad' (F (s, bs.drop p')) := by
  rcases hs with ⟨rfl, k, r, h1, h2, _, rfl⟩ | ⟨h1, rfl, _, rfl⟩
  · rcases h with ⟨_, h⟩ | ⟨h, _⟩
    · have e : rdT (bs.drop p) = some (s, bs.drop p') := by
        unfold rdT
        rw [h1]
        exact h2
      rw [e] at h
      exact .inl ⟨rfl, h⟩
    · cases h
  · refine .inr ⟨rfl, ?_⟩
    rcases h with ⟨rfl, h⟩ | ⟨_, h⟩
    · rcases h1 with h1 | h1
      · cases h1
      · rw [h, h1]
        rfl
    · exact h
theorem stepN_fit {bs : List UInt8} {p : Nat} {bad : Bool} {n : Nat} {x : Int} {p' : Nat} {bad' : Bool} (hs : StepN bs p bad n x p' bad') : IntFit x := by
  rcases hs with ⟨_, _, rfl, _⟩ | ⟨_, rfl, _⟩
  · exact numL_range _
  · exact ⟨by omega, by omega⟩
theorem stepN_byte {bs : List UInt8} {p : Nat} {bad : Bool} {x : Int} {p' : Nat} {bad' : Bool} (hs : StepN bs p bad 1 x p' bad') : 0 ≤ x ∧ x ≤ 255 := by
  rcases hs with ⟨_, h1, rfl, _⟩ | ⟨_, rfl, _⟩
  · obtain ⟨k0, k1, _⟩ := rdN_byte (rdN_much (n := 1) (r := bs.drop p) (by simp; omega))
    exact ⟨k0, k1⟩
  · omega
theorem stepT_size {bs : List UInt8} {p : Nat} {bad : Bool} {s : ByteArray} {p' : Nat} {bad' : Bool} (hs : StepT bs p bad s p' bad') : s.size ≤ 255 := by
  rcases hs with ⟨_, k, r, h1, h2, _⟩ | ⟨_, rfl, _⟩
  · exact (rdT_back (r := bs.drop p) (s := s) (r' := bs.drop p') (by unfold rdT; rw [h1]; exact h2)).2
  · decide
/-- the versions read so far -/
def TrackV (bs : List UInt8) (r0 : List UInt8) (n k : Nat) (vs : List VerV) (p : Nat) (bad : Bool) : Prop := (bad = false ∧ rdVs k r0 = some (vs, bs.drop p)) ∨ (bad = true ∧ rdVs n r0 = none)
theorem trackV_step {bs r0 : List UInt8} {n k : Nat} {vs : List VerV} {p p1 p2 : Nat} {bad1 bad2 : Bool} {s : ByteArray} {x : Int} (hp1 : p1 ≤ bs.length) (hk : k < n) (h : TrackV bs r0 n k vs p false) (h1 : StepT bs p false s p1 bad1) (h2 : StepN bs p1 bad1 6 x p2 bad2) : TrackV bs r0 n (k + 1) (vs ++ [⟨s, x⟩]) p2 bad2 := by
  have hv : rdVs k r0 = some (vs, bs.drop p) := by
    rcases h with ⟨_, h⟩ | ⟨h, _⟩
    · exact h
    · cases h
  have e : rdVs (k + 1) r0 = (rdT (bs.drop p)).bind fun q => (rdN 6 q.2).bind fun y => some (vs ++ [⟨q.1, y.1⟩], y.2) := by
    rw [rdVs, hv]
    simp only [Option.bind_some]
    unfold rdV
    cases rdT (bs.drop p) with
    | none => rfl
    | some q =>
      simp only [Option.bind_some]
      cases rdN 6 q.2 with
      | none => rfl
      | some y => rfl
  have t := track_num hp1 h2 (track_text h1 (.inl ⟨rfl, e⟩))
  rcases t with ⟨rfl, t⟩ | ⟨rfl, t⟩
  · exact .inl ⟨rfl, t⟩
  · exact .inr ⟨rfl, rdVs_none t (by omega)⟩
end Go.Proofs.Ytlgmmibncoedgaa

set_option linter.unusedVariables false
namespace Go.Proofs.Ytlgmmibncoedgaa
open Go.RowKit Go.Maps Go.Deep

set_option maxHeartbeats 3200000 in
theorem l9Stamp_row (w : World) (b off cap : Nat) (ns : List VerV) (hl : (ns.length : Int) ≤ 12) (hc : VerAt w b off ns) (hb : b < w.heap.size) (hs : VerOk ns) :
    Calls Try.prog 66 #[.slice (some ⟨b, off, none⟩) ns.length cap] w fun e w' => e = .returned (.bool (stampB ns)) ∧ Below w.heap.size w w' := by
  have HS := hide hs
  have HC := hide hc
  have g12 : ¬ 12 < (ns.length : Int) := by omega
  clear hs hc
  go_enter Try.func66, Try.ntmps66
  go_wp2_with fail
  go_loopw [3] (fun i wr => ∃ k : Nat, k ≤ ns.length ∧ i = .int .i64 k ∧ Hid (StampTo ns k) ∧ Hid (Below w.heap.size w wr)) (fun i _ => ns.length - (intOf i).toNat)
  case atStart => exact ⟨0, Nat.zero_le _, rfl, stamp_zero ns, Below.refl _ _⟩
  case round =>
    obtain ⟨k, hk, rfl, HG, HBr⟩ := hrel
    by_cases hlt : k < ns.length
    · obtain ⟨c0, c1⟩ := unhide HC k hlt
      rw [← (unhide HBr).cell (by exact hb)] at c0 c1
      have hname := hide (unhide HS _ (List.getElem_mem hlt)).1
      have HP := hide (fun W => specPlain9_any ns[k].a0 W (unhide hname))
      rcases ver_cases ns[k] with ⟨hv, p1, p2, p3⟩ | ⟨hv, hcase⟩
      · rw [p1] at HP
        by_cases hk0 : k = 0
        · have HG2 := hide (show StampTo ns (k + 1) by subst hk0; exact stamp_step0 hlt hv)
          have d0 : decide (0 < k) = false := by simp; omega
          clear hv hk0
          generalize ns[k].a0 = nm at *
          generalize ns[k].a1 = vl at *
          go_wp2_with fail
          refine (unhide HP _).mono ?_
          rintro e w1 ⟨rfl, hw⟩
          rw [hw]
          clear hw
          go_wp2_with fail
          go_quiet (fail)
          go_wp2_with fail
          go_roundw
          case rel => exact ⟨k + 1, by omega, by go_num, HG2, hide ((unhide HBr).trans ((belowN _ _).mono (unhide HBr).size))⟩
          case measure => simp [intOf]; omega
        · obtain ⟨j, hj⟩ : ∃ j, k = j + 1 := ⟨k - 1, by omega⟩
          have hjl : j < ns.length := by omega
          obtain ⟨e0, e1⟩ := unhide HC j hjl
          rw [← (unhide HBr).cell (by exact hb)] at e0 e1
          have HUP := hide (show lessS ns[j].a0 ns[k].a0 = true → StampTo ns (k + 1) by subst hj; exact stamp_step hlt (unhide HG) hv)
          have HDN := hide (show lessS ns[j].a0 ns[k].a0 = false → false = stampB ns by subst hj; exact fun h => (stamp_down hlt h).symm)
          unfold lessS at HUP HDN
          have hsub : (k : Int) - 1 = (j : Int) := by omega
          have hwr : IntKind.i64.wrap (j : Int) = (j : Int) := wrap_small _ (by omega) (by omega)
          have d0 : decide (0 < k) = true := by simp; omega
          have d1 : (j : Int) < (ns.length : Int) := by omega
          have d2 : (k : Int) < (ns.length : Int) := by omega
          clear hv hj hk0
          generalize ns[k].a0 = nm at *
          generalize ns[k].a1 = vl at *
          generalize ns[j].a0 = nj at *
          generalize ns[j].a1 = vj at *
          go_wp2_with fail
          refine (unhide HP _).mono ?_
          rintro e w1 ⟨rfl, hw⟩
          rw [hw]
          clear hw
          go_wp2_with fail
          go_quiet (fail)
          cases hless : Op.bytesLess nj.toList nm.toList
          · go_wp2_with fail
            go_ret
            exact ⟨ret_bool (unhide HDN hless), (unhide HBr).trans ((belowN _ _).mono (unhide HBr).size)⟩
          · have HG2 := hide (unhide HUP hless)
            go_wp2_with fail
            go_roundw
            case rel => exact ⟨k + 1, by omega, by go_num, HG2, hide ((unhide HBr).trans ((belowN _ _).mono (unhide HBr).size))⟩
            case measure => simp [intOf]; omega
      · have HR := hide (stamp_bad hlt hv).symm
        clear hv
        generalize ns[k].a0 = nm at *
        generalize ns[k].a1 = vl at *
        rcases hcase with p1 | ⟨p1, p2⟩ | ⟨p1, p2, p3⟩
        all_goals
          rw [p1] at HP
          go_wp2_with fail
          refine (unhide HP _).mono ?_
          rintro e w1 ⟨rfl, hw⟩
          rw [hw]
          clear hw
          go_wp2_with fail
          go_ret
          exact ⟨ret_bool (unhide HR), unhide HBr⟩
    · have e : k = ns.length := by omega
      have HR := hide (show true = stampB ns from (stamp_good (by omega) (by rw [e] at HG; exact unhide HG)).symm)
      clear e
      go_wp2_with fail
      go_ret
      exact ⟨ret_bool (unhide HR), unhide HBr⟩
theorem l9Stamp_none (w : World) (a : Option Addr) (cap : Nat) : Calls Try.prog 66 #[.slice a 0 cap] w fun e w' => e = .returned (.bool (stampB [])) ∧ Below w.heap.size w w' := by
  go_enter Try.func66, Try.ntmps66
  go_wp2_with fail
  refine wp_loop_rounds 1 ?_
  rw [rounds_succ]
  go_wp2_with fail
  go_ret
  exact ⟨rfl, Below.refl _ _⟩
theorem l9Stamp_long (w : World) (a : Option Addr) (cap : Nat) (ns : List VerV) (hl : ¬ (ns.length : Int) ≤ 12) : Calls Try.prog 66 #[.slice a ns.length cap] w fun e w' => e = .returned (.bool (stampB ns)) ∧ Below w.heap.size w w' := by
  have HR := hide (show false = stampB ns from (stamp_long (by omega)).symm)
  have g : 12 < (ns.length : Int) := by omega
  generalize ns.length = n at *
  go_enter Try.func66, Try.ntmps66
  go_wp2_with fail
  go_ret
  exact ⟨ret_bool (unhide HR), Below.refl _ _⟩
theorem l9Stamp_any (w : World) (v : Value) (ns : List VerV) (hs : VerOk ns) (h : VerRd w v ns) : Calls Try.prog 66 #[v] w fun e w' => e = .returned (.bool (stampB ns)) ∧ Below w.heap.size w w' := by
  obtain ⟨a, c, rfl, h⟩ := h
  by_cases hl : (ns.length : Int) ≤ 12
  · rcases h with rfl | ⟨b, off, rfl, hb, hc⟩
    · exact l9Stamp_none w a c
    · exact l9Stamp_row w b off c ns hl hc hb hs
  · exact l9Stamp_long w a c ns hl
end Go.Proofs.Ytlgmmibncoedgaa
