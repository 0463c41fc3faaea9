/-
  The program's loose number: what it takes a text for, whatever the text is.
-/
import Derived.Test.YtiebfcefmdiajaaGreatDoorShelfA
import Derived.Test.YtiebfcefmdiajaaGreatDoorStampRdM
import Derived.Test.YtiebfcefmdiajaaGreatDoorItoa13
import Derived.Test.YtiebfcefmdiajaaGreatDoorPlain
set_option linter.unusedVariables false
namespace Go.Proofs.YtiebfcefmdiajaaGreatDoor
open Go.RowKit Go.Maps Go.Deep

def ErrIn (w : World) : Prop := (∃ t p, w.cell? ⟨0, 0, none⟩ = some (.iface t p)) ∧ ∃ t p, w.cell? ⟨1, 0, none⟩ = some (.iface t p)
theorem ErrIn.below {w w' : World} {B : Nat} (h : ErrIn w) (hb : Below B w w') (hB : w.heap.size ≤ B) : ErrIn w' := by
  obtain ⟨⟨t, p, h1⟩, t2, p2, h2⟩ := h
  exact ⟨⟨t, p, (hb.cell (Nat.lt_of_lt_of_le (lt_of_cell0 h1) hB)).trans h1⟩, t2, p2, (hb.cell (Nat.lt_of_lt_of_le (lt_of_cell0 h2) hB)).trans h2⟩
theorem atoi_any (s : ByteArray) (w : World) (hs : s.size ≤ 1000000) (h : ErrIn w) :
    Calls Tryz.prog 69 #[.string s] w fun e w' => (∃ r, e = .returned (.tuple #[.int .i64 (looseV s.data.toList), r]) ∧ (r = .nilIface ∨ ∃ t p, r = .iface t p)) ∧ Below w.heap.size w w' := by
  obtain ⟨⟨t, p, h1⟩, t2, p2, h2⟩ := h
  unfold looseV
  cases hq : Lib.atoiAll s.data.toList with
  | ok v =>
    refine (Tryz.strconv_Atoi_ok s (by omega) v hq w).mono ?_
    rintro e w' ⟨rfl, hw⟩
    refine ⟨⟨_, rfl, .inl rfl⟩, ?_⟩
    rcases hw with rfl | ⟨t, rfl⟩
    · exact Below.refl _ _
    · exact conv_below _ _ _
  | «syntax» =>
    refine (Tryz.strconv_Atoi_syntax s (by omega) hq _ w h1 (.inr ⟨t, p, rfl⟩)).mono ?_
    rintro e w' ⟨N, rfl, -, -, hb⟩
    exact ⟨⟨_, rfl, .inr ⟨_, _, rfl⟩⟩, hb⟩
  | range =>
    refine (Tryz.strconv_Atoi_range s (by omega) hq _ w h2 (.inr ⟨t2, p2, rfl⟩)).mono ?_
    rintro e w' ⟨N, rfl, -, -, hb⟩
    exact ⟨⟨_, rfl, .inr ⟨_, _, rfl⟩⟩, hb⟩
theorem loose_any (s : ByteArray) (w : World) (hs : s.size ≤ 1000000) (h : ErrIn w) :
    Calls Tryz.prog 48 #[.string s] w fun e w' => e = .returned (.int .i64 (looseV s.data.toList)) ∧ Below w.heap.size w w' := by
  have HA := hide (atoi_any s w hs h)
  clear hs h
  generalize looseV s.data.toList = v at *
  go_enter Tryz.func48, Tryz.ntmps48
  go_wp2_with fail
  refine (unhide HA).mono ?_
  rintro e w1 ⟨⟨r, rfl, hr⟩, b1⟩
  have B1 := hide b1
  clear b1 HA
  rcases hr with rfl | ⟨t, p, rfl⟩
  · go_wp2_with fail
    go_ret
    exact ⟨rfl, unhide B1⟩
  · go_wp2_with fail
    go_ret
    exact ⟨rfl, unhide B1⟩
end Go.Proofs.YtiebfcefmdiajaaGreatDoor
