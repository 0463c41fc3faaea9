/-
  Who listens to a stream: where one waits; what stands at the beginning of bytes: both sides of it.
-/
import Derived.Test.YtongnlbdpfhngaaFrameReadS
import Derived.Test.YtongnlbdpfhngaaFrameSzI
set_option linter.unusedVariables false
namespace Go.Proofs.Ytongnlbdpfhngaa
open Go.RowKit Go.Maps Go.Deep

def waitB (bs : List UInt8) : Bool := decide (frameSz bs = 0) || decide ((bs.length : Int) < frameSz bs)
def nextI (bs : List UInt8) : Int := if frameSz bs < 0 then -1 else if waitB bs then 0 else if frameOk (bs.take (frameSz bs).toNat) then 1 else -1
set_option maxHeartbeats 3200000 in
theorem next_any (bs : List UInt8) (v : Value) (w : World) (hl : bs.length ≤ 1048576) (h : ByRd w v bs) :
    Calls Try.prog 24 #[v] w fun e w' => e = .returned (.int .i64 (nextI bs)) ∧ Below w.heap.size w w' := by
  have HS := hide (specSz_any v bs w hl h)
  obtain ⟨a, c, rfl, hin, hcap⟩ := h
  by_cases g1 : frameSz bs < 0
  · have HV := hide (show -1 = nextI bs by simp [nextI, g1])
    clear hin
    go_enter Try.func24, Try.ntmps24
    go_wp2_with fail
    refine (unhide HS).mono ?_
    rintro e w1 ⟨rfl, hw⟩
    rw [hw]
    clear hw w1 HS
    generalize frameSz bs = q at *
    go_wp2_with fail
    go_ret
    exact ⟨ret_int (unhide HV), Below.refl _ _⟩
  · cases g2 : waitB bs
    · have g3 : frameSz bs ≠ 0 ∧ ¬ (bs.length : Int) < frameSz bs := by simpa [waitB] using g2
      obtain ⟨g3, g4⟩ := g3
      have HV := hide (show (if frameOk (bs.take (frameSz bs).toNat) then (1 : Int) else -1) = nextI bs by simp [nextI, g1, g2])
      obtain ⟨n, hn⟩ : ∃ n : Nat, frameSz bs = (n : Int) := ⟨(frameSz bs).toNat, by omega⟩
      have HRD := hide (specFRead_any (bs.take n) _ w (by simp; omega) (cut_take hin hcap n (by omega)))
      rw [hn] at HS HV g1 g3 g4
      rw [Int.toNat_natCast] at HV
      have q0 : ((n : Int) == 0) = false := by simpa using g3
      have q1 : (n : Int) ≤ (bs.length : Int) := by omega
      have q2 : (n : Int) ≤ (c : Int) := by omega
      have q3 : n ≤ c := by omega
      clear hin hn g3
      cases hk : frameOk (bs.take n)
      · rw [hk] at HRD HV
        go_enter Try.func24, Try.ntmps24
        go_wp2_with fail
        refine (unhide HS).mono ?_
        rintro e w1 ⟨rfl, hw⟩
        rw [hw]
        clear hw w1 HS
        go_wp2_with fail
        refine (unhide HRD).mono ?_
        rintro e w2 ⟨v2, rfl, _, b2⟩
        have B2 := hide b2
        clear b2
        go_wp2_with fail
        go_ret
        exact ⟨ret_int (unhide HV), unhide B2⟩
      · rw [hk] at HRD HV
        go_enter Try.func24, Try.ntmps24
        go_wp2_with fail
        refine (unhide HS).mono ?_
        rintro e w1 ⟨rfl, hw⟩
        rw [hw]
        clear hw w1 HS
        go_wp2_with fail
        refine (unhide HRD).mono ?_
        rintro e w2 ⟨v2, rfl, _, b2⟩
        have B2 := hide b2
        clear b2
        go_wp2_with fail
        go_ret
        exact ⟨ret_int (unhide HV), unhide B2⟩
    · have HV := hide (show 0 = nextI bs by simp [nextI, g1, g2])
      have g3 : frameSz bs = 0 ∨ (bs.length : Int) < frameSz bs := by simpa [waitB] using g2
      clear hin g2
      by_cases g4 : frameSz bs = 0
      · rw [g4] at HS
        clear g3 g1
        generalize bs.length = m at *
        go_enter Try.func24, Try.ntmps24
        go_wp2_with fail
        refine (unhide HS).mono ?_
        rintro e w1 ⟨rfl, hw⟩
        rw [hw]
        clear hw w1 HS
        go_wp2_with fail
        go_ret
        exact ⟨ret_int (unhide HV), Below.refl _ _⟩
      · have g5 : (bs.length : Int) < frameSz bs := by omega
        have q0 : (frameSz bs == 0) = false := by simpa using g4
        clear g3 g4
        generalize bs.length = m at *
        go_enter Try.func24, Try.ntmps24
        go_wp2_with fail
        refine (unhide HS).mono ?_
        rintro e w1 ⟨rfl, hw⟩
        rw [hw]
        clear hw w1 HS
        generalize frameSz bs = q at *
        go_wp2_with fail
        go_ret
        exact ⟨ret_int (unhide HV), Below.refl _ _⟩
set_option maxHeartbeats 3200000 in
theorem waits_any (bs : List UInt8) (v : Value) (g : Nat) (w : World) (hl : bs.length ≤ 1048576) (hg : g < w.heap.size) (hc : w.cell? ⟨g, 0, none⟩ = some v) (h : ByRd w v bs) :
    Calls Try.prog 27 #[.pointer (some ⟨g, 0, none⟩)] w fun e w' => e = .returned (.bool (waitB bs)) ∧ Below w.heap.size w w' := by
  have HS := hide (implSz_any v bs w hl h)
  obtain ⟨a, c, rfl⟩ := h.len
  have HC := hide (fun (W : World) (b : Below w.heap.size w W) => (b.cell (p := ⟨g, 0, none⟩) hg).trans hc)
  clear h
  unfold waitB
  by_cases g4 : frameSz bs = 0
  · rw [g4] at HS ⊢
    generalize bs.length = m at *
    go_enter Try.func27, Try.ntmps27
    go_wp2_with fail
    refine (unhide HS).mono ?_
    rintro e w1 ⟨rfl, b1⟩
    have B1 := hide b1
    have c1 := unhide HC w1 b1
    clear b1 HS hc
    go_wp2_with fail
    all_goals
      go_ret
      exact ⟨rfl, by first | exact unhide B1 | exact (unhide B1).drew⟩
  · have q0 : (frameSz bs == 0) = false := by simpa using g4
    have HR := hide (show decide ((bs.length : Int) < frameSz bs) = (decide (frameSz bs = 0) || decide ((bs.length : Int) < frameSz bs)) by simp [g4])
    rw [← unhide HR]
    clear g4 HR
    generalize bs.length = m at *
    generalize frameSz bs = q at *
    go_enter Try.func27, Try.ntmps27
    go_wp2_with fail
    refine (unhide HS).mono ?_
    rintro e w1 ⟨rfl, b1⟩
    have B1 := hide b1
    have c1 := unhide HC w1 b1
    clear b1 HS hc
    go_wp2_with fail
    all_goals
      go_ret
      exact ⟨rfl, by first | exact unhide B1 | exact (unhide B1).drew⟩
end Go.Proofs.Ytongnlbdpfhngaa
