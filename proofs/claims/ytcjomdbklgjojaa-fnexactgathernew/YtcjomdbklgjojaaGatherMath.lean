/-
  The inputs of a gatherer: which may be.
-/
import Derived.Test.YtcjomdbklgjojaaLess
import Derived.Test.YtcjomdbklgjojaaPlain
import Derived.Test.YtcjomdbklgjojaaStrRows
set_option linter.unusedVariables false
namespace Go.Proofs.Ytcjomdbklgjojaa
open Go.RowKit Go.Maps Go.Deep

def hasG (names : List ByteArray) (s : ByteArray) : Bool := names.any fun t => decide (t = s)
theorem hasG_iff (names : List ByteArray) (s : ByteArray) : hasG names s = true ↔ s ∈ names := by
  unfold hasG
  simp
def inOkB (ins : List ByteArray) (i : Nat) : Bool := plainB (ins.getD i ⟨#[]⟩) && !(hasG (ins.take i) (ins.getD i ⟨#[]⟩))
def insB (ins : List ByteArray) : Bool := decide (1 ≤ ins.length) && decide (ins.length ≤ 6) && (List.range ins.length).all (inOkB ins)
theorem insB_len {ins : List ByteArray} (h : ins.length < 1 ∨ 6 < ins.length) : insB ins = false := by
  unfold insB
  rcases h with h | h
  · rw [show decide (1 ≤ ins.length) = false from decide_eq_false (by omega)]; simp
  · rw [show decide (ins.length ≤ 6) = false from decide_eq_false (by omega)]; simp
theorem insB_no {ins : List ByteArray} {i : Nat} (hi : i < ins.length) (h : inOkB ins i = false) : insB ins = false := by
  unfold insB
  rw [show (List.range ins.length).all (inOkB ins) = false by rw [List.all_eq_false]; exact ⟨i, List.mem_range.2 hi, by simp [h]⟩]
  simp
theorem insB_yes {ins : List ByteArray} (h1 : 1 ≤ ins.length) (h6 : ins.length ≤ 6) (h : ∀ i, i < ins.length → inOkB ins i = true) : insB ins = true := by
  unfold insB
  rw [show (List.range ins.length).all (inOkB ins) = true by rw [List.all_eq_true]; exact fun i hi => h i (List.mem_range.1 hi), decide_eq_true h1, decide_eq_true h6]
  rfl
theorem insB_facts {ins : List ByteArray} (h : insB ins = true) : 1 ≤ ins.length ∧ ins.length ≤ 6 := by
  unfold insB at h
  simp only [Bool.and_eq_true, decide_eq_true_eq] at h
  exact ⟨h.1.1, h.1.2⟩
theorem insB_each {ins : List ByteArray} (h : insB ins = true) : ∀ s ∈ ins, s.size ≤ 8 := by
  intro s hs
  obtain ⟨i, hi, rfl⟩ := List.getElem_of_mem hs
  unfold insB at h
  simp only [Bool.and_eq_true] at h
  have := h.2
  rw [List.all_eq_true] at this
  have := this i (List.mem_range.2 hi)
  unfold inOkB at this
  simp only [List.getD_eq_getElem?_getD, List.getElem?_eq_getElem hi, Option.getD_some, Bool.and_eq_true] at this
  have := this.1
  unfold plainB at this
  simp at this
  exact this.1.2
theorem inOk_get {ins : List ByteArray} {i : Nat} (hi : i < ins.length) : inOkB ins i = (plainB ins[i] && !(hasG (ins.take i) ins[i])) := by
  unfold inOkB
  simp only [List.getD_eq_getElem?_getD, List.getElem?_eq_getElem hi, Option.getD_some]
/-- none of the first k is the i-th -/
def NewTo (ins : List ByteArray) (i k : Nat) : Prop := ∀ j (h : j < ins.length) (hi : i < ins.length), j < k → ins[j] ≠ ins[i]
theorem new_all {ins : List ByteArray} {i : Nat} (hi : i < ins.length) (h : NewTo ins i i) : hasG (ins.take i) ins[i] = false := by
  cases hh : hasG (ins.take i) ins[i]
  · rfl
  · rw [hasG_iff] at hh
    obtain ⟨j, hj, e⟩ := List.getElem_of_mem hh
    simp only [List.length_take] at hj
    rw [List.getElem_take] at e
    exact absurd e (h j (by omega) hi (by omega))
theorem new_none {ins : List ByteArray} {i k : Nat} (hi : i < ins.length) (hk : k < i) (h : ins[k]'(by omega) = ins[i]) : hasG (ins.take i) ins[i] = true := by
  rw [hasG_iff, ← h]
  exact List.mem_take_iff_getElem.2 ⟨k, by omega, rfl⟩
theorem str_neq {t s : ByteArray} (h : t ≠ s) : (t.toList == s.toList) = false := by
  rw [str_same]
  exact decide_eq_false h
end Go.Proofs.Ytcjomdbklgjojaa
