/-
  WindowFind of the program.
-/
import Derived.Test.YtnnhdgaokifcoaaMerged1
set_option linter.unusedVariables false
namespace Go.Proofs.Ytnnhdgaokifcoaa
open Go.RowKit Go.Maps Go.Deep Go.Shelf

attribute [local go_sem] Oper.semAt_some

theorem keepsOthers_below {W W' : World} (hb : Below W.heap.size W W') : KeepsOthers W W' := KeepsOthers.of_grownBy (row := none) ⟨hb.os, hb.tape, hb.output, hb.size, fun k hk _ => hb.block k hk⟩ (fun j o e => by cases e)
def hitAt (ns : List ItemV) (s : ByteArray) (ver : Int) (i : Nat) : Bool := (ns[i]?.map (hitB · s ver)).getD false
theorem hitAt_eq {ns : List ItemV} {i : Nat} (h : i < ns.length) (s : ByteArray) (ver : Int) : hitAt ns s ver i = hitB ns[i] s ver := by simp [hitAt, h]
theorem find_none {ns : List ItemV} {s : ByteArray} {ver : Int} : ∀ (n : Nat), n ≤ ns.length → (∀ i, i < n → hitAt ns s ver i = false) → findN ns s ver n = -1
  | 0, _, _ => rfl
  | n + 1, hn, h => by
    have := h n (by omega)
    rw [hitAt_eq (by omega)] at this
    rw [find_miss (by omega) this]
    exact find_none n (by omega) (fun i hi => h i (by omega))
theorem find_last {ns : List ItemV} {s : ByteArray} {ver : Int} {q : Nat} : ∀ (n : Nat), n ≤ ns.length → q < n → hitAt ns s ver q = true → (∀ i, q < i → i < n → hitAt ns s ver i = false) → findN ns s ver n = (q : Int)
  | 0, _, h, _, _ => absurd h (Nat.not_lt_zero _)
  | n + 1, hn, hq, hh, h => by
    by_cases e : q = n
    · subst e
      rw [hitAt_eq (by omega)] at hh
      exact find_hit (by omega) hh
    · have := h n (by omega) (by omega)
      rw [hitAt_eq (by omega)] at this
      rw [find_miss (by omega) this]
      exact find_last n (by omega) (by omega) hh (fun i h1 h2 => h i h1 (by omega))
theorem lastL_has {xs : List RawI} {k i : Nat} (hk : k ≤ xs.length) (h1 : xs.length - k ≤ i) (h2 : i < xs.length) : ∃ y ∈ lastL xs k, y.1 = i := by
  refine ⟨_, List.mem_map.2 ⟨xs.length - 1 - i, List.mem_range.2 (by omega), rfl⟩, ?_⟩
  show xs.length - 1 - (xs.length - 1 - i) = i
  omega
/-- none of them has it -/
def NoHit (ns : List ItemV) (s : ByteArray) (ver : Int) (xs : List RawI) (pre : List (RIt xs)) : Prop := ∀ y ∈ pre, hitAt ns s ver y.1.1 = false
theorem noHit_all {ns : List ItemV} {s : ByteArray} {ver : Int} {xs : List RawI} {ys : List (RIt xs)} (hl : xs.length = ns.length) (hy : ys.map (fun x : RIt xs => x.1) = lastL xs xs.length) (h : NoHit ns s ver xs ys) : findN ns s ver ns.length = -1 := by
  refine find_none _ (Nat.le_refl _) fun i hi => ?_
  obtain ⟨y, hm, e⟩ := lastL_has (xs := xs) (k := xs.length) (i := i) (Nat.le_refl _) (by omega) (by omega)
  rw [← hy] at hm
  obtain ⟨z, hz, ez⟩ := List.mem_map.1 hm
  have := h z hz
  rw [ez, e] at this
  exact this
theorem hit_found {ns : List ItemV} {s : ByteArray} {ver : Int} {xs : List RawI} {ini : List (RIt xs)} {last : RIt xs} {k : Nat} (hk : k ≤ xs.length) (hl : xs.length = ns.length) (hy : (ini ++ [last]).map (fun x : RIt xs => x.1) = lastL xs k) (h : NoHit ns s ver xs ini) (hh : hitAt ns s ver last.1.1 = true) : findN ns s ver ns.length = (last.1.1 : Int) := by
  obtain ⟨j, rfl⟩ : ∃ j, k = j + 1 := by
    cases k with
    | zero => simp [lastL] at hy
    | succ j => exact ⟨j, rfl⟩
  rw [lastL_succ, List.map_append] at hy
  obtain ⟨h1, h2⟩ := List.append_inj' hy rfl
  have hla : last.1.1 = xs.length - 1 - j := by
    simp only [List.map_cons, List.map_nil, List.cons.injEq, and_true] at h2
    rw [h2]
  refine find_last _ (Nat.le_refl _) (by omega) hh fun i hi1 hi2 => ?_
  obtain ⟨y, hm, e⟩ := lastL_has (xs := xs) (k := j) (i := i) (by omega) (by omega) (by omega)
  rw [← h1] at hm
  obtain ⟨z, hz, ez⟩ := List.mem_map.1 hm
  have := h z hz
  rw [ez, e] at this
  exact this
end Go.Proofs.Ytnnhdgaokifcoaa
