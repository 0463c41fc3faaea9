/-
  The bytes of a log: its records one behind the other.
-/
import Derived.Test.YtcpjcdbhcllbiaaRecBytes
set_option linter.unusedVariables false
namespace Go.Proofs.Ytcpjcdbhcllbiaa
open Go.RowKit Go.Maps Go.Deep

def logStep (o : Option (List UInt8)) (r : RecV) : Option (List UInt8) := match o with
  | none => none
  | some acc => if recOkB r = true ∧ acc.length + (recBytesL r).length ≤ 8000 then some (acc ++ recBytesL r) else none
def logL (rs : List RecV) : Option (List UInt8) := rs.foldl logStep (some [])
def logAll (rs : List RecV) : Option (List UInt8) := if rs.length ≤ 200 then logL rs else none
def logOut (rs : List RecV) : List UInt8 := (logAll rs).getD []
def logOkB (rs : List RecV) : Bool := (logAll rs).isSome
theorem log_take (rs : List RecV) (k : Nat) (h : k < rs.length) : logL (rs.take (k + 1)) = logStep (logL (rs.take k)) rs[k] := by
  rw [List.take_succ_eq_append_getElem h]
  unfold logL
  rw [List.foldl_append]
  rfl
theorem log_fold_none (rs : List RecV) : rs.foldl logStep none = none := by
  induction rs with
  | nil => rfl
  | cons r rs ih => exact ih
theorem log_none {rs : List RecV} {k : Nat} (h : logL (rs.take k) = none) : logL rs = none := by
  conv => lhs; rw [← List.take_append_drop k rs]
  unfold logL at h ⊢
  rw [List.foldl_append, h]
  exact log_fold_none _
theorem log_bad {rs : List RecV} {k : Nat} {acc : List UInt8} (hk : k < rs.length) (ha : logL (rs.take k) = some acc) (h : ¬ (recOkB rs[k] = true ∧ acc.length + (recBytesL rs[k]).length ≤ 8000)) : logL rs = none := by
  refine log_none (k := k + 1) ?_
  rw [log_take rs k hk, ha]
  simp only [logStep, if_neg h]
theorem log_good {rs : List RecV} {k : Nat} {acc : List UInt8} (hk : k < rs.length) (ha : logL (rs.take k) = some acc) (h : recOkB rs[k] = true ∧ acc.length + (recBytesL rs[k]).length ≤ 8000) : logL (rs.take (k + 1)) = some (acc ++ recBytesL rs[k]) := by
  rw [log_take rs k hk, ha]
  simp only [logStep, if_pos h]
theorem log_len (rs : List RecV) : ∀ acc, logL rs = some acc → acc.length ≤ 8000 := by
  have : ∀ (n : Nat) (rs : List RecV), rs.length = n → ∀ acc, logL rs = some acc → acc.length ≤ 8000 := by
    intro n
    induction n with
    | zero =>
      intro rs h acc e
      rw [List.eq_nil_of_length_eq_zero h] at e
      simp [logL] at e
      rw [e]
      simp
    | succ n ih =>
      intro rs h acc e
      have hn : n < rs.length := by omega
      have ht := log_take rs n hn
      rw [List.take_of_length_le (by omega), e] at ht
      cases hp : logL (rs.take n) with
      | none => rw [hp] at ht; cases ht
      | some a =>
        rw [hp] at ht
        simp only [logStep] at ht
        split at ht
        · rename_i hh
          simp only [Option.some.injEq] at ht
          rw [ht, List.length_append]
          exact hh.2
        · cases ht
  exact this _ rs rfl
theorem logOut_len (rs : List RecV) : (logOut rs).length ≤ 8000 := by
  unfold logOut logAll
  split
  · cases h : logL rs with
    | none => simp
    | some acc => exact log_len rs acc h
  · simp
theorem recBytesL_len (r : RecV) : (recBytesL r).length ≤ 222 := by
  unfold recBytesL
  split
  · rename_i h
    exact rec_len h
  · simp
def RetLog (rs : List RecV) (w : World) (e : Ending) (w' : World) : Prop := ∃ a n c, e = .returned (.tuple #[.slice a n c, .bool (logOkB rs)]) ∧ ByRow w.heap.size w' (.slice a n c) (logOut rs) ∧ Below w.heap.size w w'
theorem ret_log_no {rs : List RecV} (h : logAll rs = none) : logOkB rs = false ∧ logOut rs = [] := by simp [logOkB, logOut, h]
theorem ret_log_yes {rs : List RecV} {acc : List UInt8} (h : logAll rs = some acc) : logOkB rs = true ∧ logOut rs = acc := by simp [logOkB, logOut, h]
end Go.Proofs.Ytcpjcdbhcllbiaa
