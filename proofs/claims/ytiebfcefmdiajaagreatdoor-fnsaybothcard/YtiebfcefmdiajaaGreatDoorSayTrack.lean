/-
  What a reader has read so far, held against the whole reading.
-/
import Derived.Test.YtiebfcefmdiajaaGreatDoorSayRdS
set_option linter.unusedVariables false
namespace Go.Proofs.YtiebfcefmdiajaaGreatDoor
open Go.RowKit Go.Maps Go.Deep

/-- the whole comes to Y, or there were too few bytes and it comes to none -/
def Track {α : Type} (X : Option α) (bad : Bool) (Y : Option α) : Prop := (bad = false ∧ X = Y) ∨ (bad = true ∧ X = none)
theorem track_num {α : Type} {X : Option α} {bs : List UInt8} {p : Nat} {bad : Bool} {n : Nat} {x : Int} {p' : Nat} {bad' : Bool} {F : Int × List UInt8 → Option α} (hp : p ≤ bs.length) (hs : StepN bs p bad n x p' bad') (h : Track X bad ((rdN n (bs.drop p)).bind F)) : Track X bad' (F (x, bs.drop p')) := by
  rcases hs with ⟨rfl, h1, rfl, rfl, rfl⟩ | ⟨h1, rfl, rfl, rfl⟩
  · rcases h with ⟨_, h⟩ | ⟨h, _⟩
    · rw [rdN_much (by simp; omega), List.drop_drop] at h
      exact .inl ⟨rfl, h⟩
    · cases h
  · refine .inr ⟨rfl, ?_⟩
    rcases h with ⟨rfl, h⟩ | ⟨_, h⟩
    · rcases h1 with h1 | h1
      · cases h1
      · rw [h, rdN_few (by simp; omega)]
        rfl
    · exact h
theorem track_text {α : Type} {X : Option α} {bs : List UInt8} {p : Nat} {bad : Bool} {s : ByteArray} {p' : Nat} {bad' : Bool} {F : ByteArray × List UInt8 → Option α} (hs : StepT bs p bad s p' bad') (h : Track X bad ((rdT (bs.drop p)).bind F)) : Track X bad' (F (s, bs.drop p')) := by
  rcases hs with ⟨rfl, k, r, h1, h2, _, rfl⟩ | ⟨h1, rfl, _, rfl⟩
  · rcases h with ⟨_, h⟩ | ⟨h, _⟩
    · have e : rdT (bs.drop p) = some (s, bs.drop p') := by
        unfold rdT
        rw [h1]
        exact h2
      rw [e] at h
      exact .inl ⟨rfl, h⟩
    · cases h
  · refine .inr ⟨rfl, ?_⟩
    rcases h with ⟨rfl, h⟩ | ⟨_, h⟩
    · rcases h1 with h1 | h1
      · cases h1
      · rw [h, h1]
        rfl
    · exact h
theorem stepN_fit {bs : List UInt8} {p : Nat} {bad : Bool} {n : Nat} {x : Int} {p' : Nat} {bad' : Bool} (hs : StepN bs p bad n x p' bad') : IntFit x := by
  rcases hs with ⟨_, _, rfl, _⟩ | ⟨_, rfl, _⟩
  · exact numL_range _
  · exact ⟨by omega, by omega⟩
theorem stepN_byte {bs : List UInt8} {p : Nat} {bad : Bool} {x : Int} {p' : Nat} {bad' : Bool} (hs : StepN bs p bad 1 x p' bad') : 0 ≤ x ∧ x ≤ 255 := by
  rcases hs with ⟨_, h1, rfl, _⟩ | ⟨_, rfl, _⟩
  · obtain ⟨k0, k1, _⟩ := rdN_byte (rdN_much (n := 1) (r := bs.drop p) (by simp; omega))
    exact ⟨k0, k1⟩
  · omega
theorem stepT_size {bs : List UInt8} {p : Nat} {bad : Bool} {s : ByteArray} {p' : Nat} {bad' : Bool} (hs : StepT bs p bad s p' bad') : s.size ≤ 255 := by
  rcases hs with ⟨_, k, r, h1, h2, _⟩ | ⟨_, rfl, _⟩
  · exact (rdT_back (r := bs.drop p) (s := s) (r' := bs.drop p') (by unfold rdT; rw [h1]; exact h2)).2
  · decide
/-- the versions read so far -/
def TrackV (bs : List UInt8) (r0 : List UInt8) (n k : Nat) (vs : List VerV) (p : Nat) (bad : Bool) : Prop := (bad = false ∧ rdVs k r0 = some (vs, bs.drop p)) ∨ (bad = true ∧ rdVs n r0 = none)
theorem trackV_step {bs r0 : List UInt8} {n k : Nat} {vs : List VerV} {p p1 p2 : Nat} {bad1 bad2 : Bool} {s : ByteArray} {x : Int} (hp1 : p1 ≤ bs.length) (hk : k < n) (h : TrackV bs r0 n k vs p false) (h1 : StepT bs p false s p1 bad1) (h2 : StepN bs p1 bad1 6 x p2 bad2) : TrackV bs r0 n (k + 1) (vs ++ [⟨s, x⟩]) p2 bad2 := by
  have hv : rdVs k r0 = some (vs, bs.drop p) := by
    rcases h with ⟨_, h⟩ | ⟨h, _⟩
    · exact h
    · cases h
  have e : rdVs (k + 1) r0 = (rdT (bs.drop p)).bind fun q => (rdN 6 q.2).bind fun y => some (vs ++ [⟨q.1, y.1⟩], y.2) := by
    rw [rdVs, hv]
    simp only [Option.bind_some]
    unfold rdV
    cases rdT (bs.drop p) with
    | none => rfl
    | some q =>
      simp only [Option.bind_some]
      cases rdN 6 q.2 with
      | none => rfl
      | some y => rfl
  have t := track_num hp1 h2 (track_text h1 (.inl ⟨rfl, e⟩))
  rcases t with ⟨rfl, t⟩ | ⟨rfl, t⟩
  · exact .inl ⟨rfl, t⟩
  · exact .inr ⟨rfl, rdVs_none t (by omega)⟩
end Go.Proofs.YtiebfcefmdiajaaGreatDoor
