/-
  The machine with a stack, as plain mathematics: what one instruction does, what a run comes to.
-/
import Derived.Test.YtoehjbehfolekaaDoorCodeMath
import Derived.Test.YtoehjbehfolekaaDoorSigns
set_option linter.unusedVariables false
namespace Go.Proofs.YtoehjbehfolekaaDoor
open Go.RowKit Go.Maps Go.Deep

structure VM where
  st : List Int
  sl : List Int
  pc : Nat
  tk : Nat

inductive Out where
  | on (m : VM)
  | stuck
  | spent

def VM.push (m : VM) (v : Int) : Out := if m.st.length = 500 then .stuck else .on { m with st := m.st ++ [v] }
/-- an instruction that takes one off -/
def VM.doWith (m : VM) (op a : Int) (rest : List Int) (top : Int) : Out :=
  if op = 5 then .on { m with st := rest, sl := m.sl.set a.toNat top }
  else if op = 9 then .on { m with st := rest, pc := if top = 0 then a.toNat else m.pc }
  else if op = 10 then .on { m with st := rest ++ [bi (top != 0)] }
  else if op = 11 then .on { m with st := rest ++ [if top < 0 then 0 else if 64 < top then 64 else top] }
  else if op = 6 then .on { m with st := rest ++ [opVal a top 0] }
  else if rest = [] then .stuck
  else .on { m with st := rest.dropLast ++ [opVal a (rest.getLastD 0) top] }
/-- what an instruction does once the machine's place has gone on; bv: the value of a name -/
def VM.do (m : VM) (bv : ByteArray → Int) (op a : Int) (s : ByteArray) : Out :=
  if op = 1 then .on { m with tk := m.tk + 1 }
  else if op = 2 then m.push a
  else if op = 3 then m.push (bv s)
  else if op = 4 then m.push (m.sl.getD a.toNat 0)
  else if op = 8 then .on { m with pc := a.toNat }
  else if m.st = [] then .stuck
  else m.doWith op a m.st.dropLast (m.st.getLastD 0)
def VM.next (m : VM) : VM := { m with pc := m.pc + 1 }
def VM.step (m : VM) (bv : ByteArray → Int) (x : InsV) : Out :=
  if x.a0 = 1 ∧ m.tk = 20000 then .spent else m.next.do bv x.a0 x.a1 x.a2
def VM.fin (m : VM) : Int × Int × Int := match m.st with
  | [v] => (v, m.tk, 0)
  | _ => (0, 0, 4)
/-- so many instructions may still be done -/
def VM.run (xs : List InsV) (bv : ByteArray → Int) : Nat → VM → Int × Int × Int
  | 0, m => if m.pc < xs.length then (0, 0, 4) else m.fin
  | f + 1, m => match xs[m.pc]? with
    | none => m.fin
    | some x => match m.step bv x with
      | .on m' => VM.run xs bv f m'
      | .stuck => (0, 0, 4)
      | .spent => (0, 20000, 3)
theorem run_end (xs : List InsV) (bv : ByteArray → Int) (f : Nat) (m : VM) (h : ¬ m.pc < xs.length) : VM.run xs bv f m = m.fin := by
  cases f with
  | zero => simp [VM.run, h]
  | succ f => simp only [VM.run, List.getElem?_eq_none (Nat.le_of_not_lt h)]
theorem run_zero (xs : List InsV) (bv : ByteArray → Int) (m : VM) (h : m.pc < xs.length) : VM.run xs bv 0 m = (0, 0, 4) := by simp [VM.run, h]
theorem run_on {xs : List InsV} {bv : ByteArray → Int} {f : Nat} {m m' : VM} (h : m.pc < xs.length) (hs : m.step bv xs[m.pc] = .on m') : VM.run xs bv (f + 1) m = VM.run xs bv f m' := by
  simp only [VM.run, List.getElem?_eq_getElem h, hs]
theorem run_stuck {xs : List InsV} {bv : ByteArray → Int} {f : Nat} {m : VM} (h : m.pc < xs.length) (hs : m.step bv xs[m.pc] = .stuck) : VM.run xs bv (f + 1) m = (0, 0, 4) := by
  simp only [VM.run, List.getElem?_eq_getElem h, hs]
theorem run_spent {xs : List InsV} {bv : ByteArray → Int} {f : Nat} {m : VM} (h : m.pc < xs.length) (hs : m.step bv xs[m.pc] = .spent) : VM.run xs bv (f + 1) m = (0, 20000, 3) := by
  simp only [VM.run, List.getElem?_eq_getElem h, hs]

/-- what holds of the machine all along -/
structure VM.Ok (m : VM) (n : Nat) : Prop where
  room : m.st.length ≤ 500
  slots : m.sl.length = 80
  nums : ∀ v ∈ m.st, ranged v
  held : ∀ v ∈ m.sl, ranged v
  place : m.pc ≤ n
  ticks : m.tk ≤ 20000

theorem wrap_ranged (a : Int) : ranged (wrap64 a) := by unfold ranged wrap64; omega
theorem bi_ranged (p : Bool) : ranged (bi p) := by cases p <;> simp [bi, ranged]
theorem tmod_ranged (a b : Int) (ha : ranged a) : ranged (a.tmod b) := by
  unfold ranged at *
  have h1 : (a.tmod b).natAbs ≤ a.natAbs := by
    rw [Int.natAbs_tmod]; exact Nat.mod_le _ _
  by_cases h0 : 0 ≤ a
  · have := Int.tmod_nonneg b h0
    omega
  · have : a.tmod b ≤ 0 := by
      have := Int.tmod_nonneg b (show 0 ≤ -a by omega)
      rw [Int.neg_tmod] at this; omega
    omega
theorem ite_ranged {p : Prop} [Decidable p] {a b : Int} (ha : ranged a) (hb : ranged b) : ranged (if p then a else b) := by
  by_cases h : p
  · rw [if_pos h]; exact ha
  · rw [if_neg h]; exact hb
theorem op_ranged (k a b : Int) (ha : ranged a) (hb : ranged b) : ranged (opVal k a b) := by
  have h0 : ranged 0 := by simp [ranged]
  unfold opVal
  repeat' (first | exact wrap_ranged _ | exact bi_ranged _ | assumption | exact tmod_ranged _ _ ha | apply ite_ranged)

theorem last_split (l : List Int) (h : ¬ l = []) : l = l.dropLast ++ [l.getLastD 0] := by
  have := List.dropLast_concat_getLast h
  rw [List.getLastD_eq_getLast?, List.getLast?_eq_some_getLast h]
  exact this.symm
theorem last_mem (l : List Int) (h : ¬ l = []) : l.getLastD 0 ∈ l := by
  rw [List.getLastD_eq_getLast?, List.getLast?_eq_some_getLast h]
  exact List.getLast_mem h
theorem mem_dropLast {l : List Int} {v : Int} (h : v ∈ l.dropLast) : v ∈ l := List.dropLast_subset l h

theorem push_ok {m m' : VM} {n : Nat} {v : Int} (h : m.Ok n) (hv : ranged v) (hp : m.push v = .on m') : m'.Ok n := by
  unfold VM.push at hp
  split at hp
  · cases hp
  · injection hp with hp
    subst hp
    refine ⟨by have := h.room; simp; omega, h.slots, fun u hu => ?_, h.held, h.place, h.ticks⟩
    simp at hu
    rcases hu with hu | rfl
    · exact h.nums u hu
    · exact hv
theorem doWith_ok {m m' : VM} {n : Nat} {op a top : Int} {rest : List Int} (h : m.Ok n) (hr : rest.length + 1 ≤ 500) (hrn : ∀ v ∈ rest, ranged v) (ht : ranged top) (ha : op = 9 → a.toNat ≤ n) (hd : m.doWith op a rest top = .on m') : m'.Ok n := by
  have one : ∀ v, ranged v → ∀ u ∈ rest ++ [v], ranged u := by
    intro v hv u hu
    simp at hu
    rcases hu with hu | rfl
    · exact hrn u hu
    · exact hv
  unfold VM.doWith at hd
  split at hd
  · injection hd with hd; subst hd
    refine ⟨by simp; omega, by simp [h.slots], hrn, fun v hv => ?_, h.place, h.ticks⟩
    rcases List.mem_or_eq_of_mem_set hv with hv | rfl
    · exact h.held v hv
    · exact ht
  split at hd
  · injection hd with hd; subst hd
    refine ⟨by simp; omega, h.slots, hrn, h.held, ?_, h.ticks⟩
    show (if top = 0 then a.toNat else m.pc) ≤ n
    split
    · exact ha (by assumption)
    · exact h.place
  split at hd
  · injection hd with hd; subst hd
    exact ⟨by simp; omega, h.slots, one _ (bi_ranged _), h.held, h.place, h.ticks⟩
  split at hd
  · injection hd with hd; subst hd
    refine ⟨by simp; omega, h.slots, one _ ?_, h.held, h.place, h.ticks⟩
    unfold ranged at *
    split
    · omega
    · split <;> omega
  split at hd
  · injection hd with hd; subst hd
    exact ⟨by simp; omega, h.slots, one _ (op_ranged _ _ _ ht (by simp [ranged])), h.held, h.place, h.ticks⟩
  split at hd
  · cases hd
  · rename_i hne
    injection hd with hd; subst hd
    refine ⟨by simp; omega, h.slots, fun u hu => ?_, h.held, h.place, h.ticks⟩
    rcases List.mem_append.1 hu with hu | hu
    · exact hrn u (mem_dropLast hu)
    · obtain rfl := List.mem_singleton.1 hu
      exact op_ranged _ _ _ (hrn _ (last_mem rest hne)) ht
theorem do_ok {m m' : VM} {n : Nat} {bv : ByteArray → Int} {op a : Int} {s : ByteArray} (h : m.Ok n) (htk : op = 1 → m.tk < 20000) (hbv : ∀ s, ranged (bv s)) (ha : ranged a) (hpl : op = 8 ∨ op = 9 → a.toNat ≤ n) (hd : m.do bv op a s = .on m') : m'.Ok n := by
  unfold VM.do at hd
  split at hd
  · injection hd with hd; subst hd
    exact ⟨h.room, h.slots, h.nums, h.held, h.place, by have := htk (by assumption); simp; omega⟩
  split at hd
  · exact push_ok h ha hd
  split at hd
  · exact push_ok h (hbv s) hd
  split at hd
  · refine push_ok h ?_ hd
    by_cases hi : a.toNat < m.sl.length
    · rw [List.getD_eq_getElem?_getD, List.getElem?_eq_getElem hi]
      exact h.held _ (List.getElem_mem hi)
    · rw [List.getD_eq_getElem?_getD, List.getElem?_eq_none (by omega)]
      simp [ranged]
  split at hd
  · injection hd with hd; subst hd
    exact ⟨h.room, h.slots, h.nums, h.held, hpl (.inl (by assumption)), h.ticks⟩
  split at hd
  · cases hd
  · rename_i hne
    have hl : 1 ≤ m.st.length := by have := List.length_pos_iff.2 hne; omega
    refine doWith_ok h ?_ (fun v hv => h.nums v (mem_dropLast hv)) (h.nums _ (last_mem _ hne)) (fun e => hpl (.inr e)) hd
    have := h.room
    simp
    omega

def VM.stepI (m : VM) (bv : ByteArray → Int) (op a : Int) (s : ByteArray) : Out := if op = 1 ∧ m.tk = 20000 then .spent else m.next.do bv op a s
theorem step_eq (m : VM) (bv : ByteArray → Int) (x : InsV) : m.step bv x = m.stepI bv x.a0 x.a1 x.a2 := rfl

end Go.Proofs.YtoehjbehfolekaaDoor
