/-
  What becomes of a run at its next instruction.
-/
import Derived.Test.YtoehjbehfolekaaDoorVM
import Derived.Test.YtoehjbehfolekaaDoorCodeOk
set_option linter.unusedVariables false
namespace Go.Proofs.YtoehjbehfolekaaDoor
open Go.RowKit Go.Maps Go.Deep

def triple (r : Int × Int × Int) : Value := .tuple #[.int .i64 r.1, .int .i64 r.2.1, .int .i64 r.2.2]

theorem step_do {m : VM} {bv : ByteArray → Int} {x : InsV} (h : ¬ (x.a0 = 1 ∧ m.tk = 20000)) : m.step bv x = m.next.do bv x.a0 x.a1 x.a2 := by unfold VM.step; rw [if_neg h]
theorem step_spent {m : VM} {bv : ByteArray → Int} {x : InsV} (h : x.a0 = 1 ∧ m.tk = 20000) : m.step bv x = .spent := by unfold VM.step; rw [if_pos h]
theorem next_ok {m : VM} {n : Nat} (h : m.Ok n) (hp : m.pc < n) : m.next.Ok n := ⟨h.room, h.slots, h.nums, h.held, hp, h.ticks⟩
theorem place_fits {op a : Int} {s : ByteArray} {n : Nat} (h : insB op a s n = true) : op = 8 ∨ op = 9 → a.toNat ≤ n := by
  intro ho
  rw [ins_other op a s n (by omega)] at h
  rw [fits_place op a n ho] at h
  simp at h
  omega



/-- what becomes of a run at its next instruction -/
structure Goes (ns : List InsV) (bv : ByteArray → Int) (f : Nat) (R : Int × Int × Int) (o : Out) : Prop where
  on : ∀ m', o = .on m' → VM.run ns bv f m' = R
  stuck : o = .stuck → R = (0, 0, 4)
  spent : o = .spent → R = (0, 20000, 3)
theorem goes_of {ns : List InsV} {bv : ByteArray → Int} {f : Nat} {R : Int × Int × Int} {m : VM} (h : m.pc < ns.length) (hr : VM.run ns bv (f + 1) m = R) : Goes ns bv f R (m.stepI bv ns[m.pc].a0 ns[m.pc].a1 ns[m.pc].a2) := by
  rw [← step_eq]
  exact ⟨fun m' e => (run_on h e).symm.trans hr, fun e => hr.symm.trans (run_stuck h e), fun e => hr.symm.trans (run_spent h e)⟩

end Go.Proofs.YtoehjbehfolekaaDoor
