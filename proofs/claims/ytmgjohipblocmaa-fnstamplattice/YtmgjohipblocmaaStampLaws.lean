/-
  The mathematics of stamps that the laws ask for.
-/
import Derived.Test.YtmgjohipblocmaaJoinMath
import Derived.Test.YtmgjohipblocmaaSideSet
import Derived.Test.YtmgjohipblocmaaOnlyS
import Derived.Test.YtmgjohipblocmaaStampGet
set_option linter.unusedVariables false
namespace Go.Proofs.Ytmgjohipblocmaa
open Go.RowKit Go.Maps Go.Deep

theorem asc_adj : ∀ {ns : List MarkV}, AscM ns → ∀ i (h : i + 1 < ns.length), lessS (ns[i]'(by omega)).a0 ns[i + 1].a0 = true
  | [], _, i, h => by simp at h
  | [x], _, i, h => by simp at h
  | x :: y :: t, ha, 0, h => ha.1 y (by simp)
  | x :: y :: t, ha, i + 1, h => asc_adj (ns := y :: t) ha.2 i (by simpa using h)
theorem stamp_iff (ns : List MarkV) : mstampB ns = true ↔ ns.length ≤ 12 ∧ (∀ x ∈ ns, markB x = true) ∧ AscM ns := by
  constructor
  · intro h
    have ha := asc_of_stamp h
    simp only [mstampB, Bool.and_eq_true, decide_eq_true_eq] at h
    refine ⟨h.1, fun x hx => ?_, ha⟩
    obtain ⟨i, hi, rfl⟩ := List.getElem_of_mem hx
    exact (h.2 i hi hi).1
  · rintro ⟨h1, h2, h3⟩
    refine mstamp_good h1 fun i hi _ => ⟨h2 _ (List.getElem_mem hi), fun h0 => ?_⟩
    have := asc_adj h3 (i - 1) (by omega)
    simp only [show i - 1 + 1 = i by omega] at this
    exact this
theorem asc_filter (p : MarkV → Bool) : ∀ {ns : List MarkV}, AscM ns → AscM (ns.filter p)
  | [], _ => trivial
  | x :: t, h => by
    rw [List.filter_cons]
    split
    · exact ⟨fun y hy => h.1 y (List.mem_filter.1 hy).1, asc_filter p h.2⟩
    · exact asc_filter p h.2
theorem stamp_filter (p : MarkV → Bool) {ns : List MarkV} (h : mstampB ns = true) : mstampB (ns.filter p) = true := by
  rw [stamp_iff] at h ⊢
  exact ⟨Nat.le_trans (List.length_filter_le _ _) h.1, fun x hx => h.2.1 x (List.mem_filter.1 hx).1, asc_filter p h.2.2⟩
theorem getV_only (names : List ByteArray) {s : ByteArray} (hs : hasB names s = true) : ∀ (ns : List MarkV), getV (onlyL names ns) s = getV ns s
  | [] => rfl
  | x :: t => by
    have ih := getV_only names hs t
    unfold onlyL at ih ⊢
    rw [List.filter_cons]
    by_cases e : x.a0 = s
    · subst e
      rw [if_pos hs]
      simp [getV]
    · split
      · simp [getV, e, ih]
      · simp [getV, e, ih]
theorem stamp_nil : mstampB [] = true := by rw [stamp_iff]; exact ⟨by simp, by simp, trivial⟩
theorem only_stamp (ns : List MarkV) (names : List ByteArray) : mstampB (onlyV ns names) = true := by
  unfold onlyV
  cases h : mstampB ns
  · exact stamp_nil
  · exact stamp_filter _ h
theorem has_mem {names : List ByteArray} {s : ByteArray} (h : s ∈ names) : hasB names s = true := by
  unfold hasB
  rw [List.any_eq_true]
  exact ⟨s, h, by simp⟩
theorem only_get (ns : List MarkV) {names : List ByteArray} {s : ByteArray} (h : s ∈ names) : getOut (onlyV ns names) s = getOut ns s := by
  unfold getOut
  rw [if_pos (only_stamp ns names)]
  unfold onlyV
  cases hb : mstampB ns
  · simp [getV]
  · simp only [if_true]
    exact getV_only names (has_mem h) ns
end Go.Proofs.Ytmgjohipblocmaa
