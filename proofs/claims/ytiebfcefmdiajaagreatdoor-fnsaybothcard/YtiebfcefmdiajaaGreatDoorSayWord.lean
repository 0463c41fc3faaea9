/-
  The program's reader of words: what gives up by a panic where bytes lack.
-/
import Derived.Test.YtiebfcefmdiajaaGreatDoorMerged19
import Derived.Test.YtiebfcefmdiajaaGreatDoorByReader
import Derived.Test.YtiebfcefmdiajaaGreatDoorSayRdS
import Derived.Handy
import Derived.Defers
import Derived.Recover
set_option linter.unusedVariables false
namespace Go.Proofs.YtiebfcefmdiajaaGreatDoor
open Go.RowKit Go.Maps Go.Deep

def shortChain : List PanicEntry := [{ v := .iface 100 (.agg #[]), recovered := false }]
def RetWN (B g : Nat) (w : World) (rest : List UInt8) (n : Nat) (e : Ending) (w' : World) : Prop :=
  (∃ x r v', rdN n rest = some (x, r) ∧ e = .returned (.int .i64 x) ∧ Hid (RdIs B w' g v' r false) ∧ Hid (Turn [g] w w')) ∨ (rdN n rest = none ∧ e = .panicked shortChain ∧ Hid (Turn [g] w w'))
def RetWT (B g : Nat) (w : World) (rest : List UInt8) (e : Ending) (w' : World) : Prop :=
  (∃ s r v', rdT rest = some (s, r) ∧ e = .returned (.string s) ∧ Hid (RdIs B w' g v' r false) ∧ Hid (Turn [g] w w')) ∨ (rdT rest = none ∧ e = .panicked shortChain ∧ Hid (Turn [g] w w'))
theorem must_ok (B g : Nat) (w : World) (v : Value) (rest : List UInt8) (h : RdIs B w g v rest false) : Calls Tryz.prog 78 #[.pointer (some ⟨g, 0, none⟩)] w fun e w' => e = .returned (.tuple #[]) ∧ w' = w := by
  have c1 := h.c1
  clear h
  go_enter Tryz.func78, Tryz.ntmps78
  go_wp2
  go_end0
  exact ⟨rfl, rfl⟩
theorem must_few (B g : Nat) (w : World) (v : Value) (rest : List UInt8) (h : RdIs B w g v rest true) : Calls Tryz.prog 78 #[.pointer (some ⟨g, 0, none⟩)] w fun e w' => e = .panicked shortChain ∧ w' = w := by
  have c1 := h.c1
  clear h
  go_enter Tryz.func78, Tryz.ntmps78
  go_wp2
  exact ⟨rfl, rfl, rfl⟩
set_option maxHeartbeats 1600000 in
theorem wnum_any (B g : Nat) (w : World) (v : Value) (rest : List UInt8) (n : Nat) (hn : n ≤ 1000000) (hl : rest.length ≤ 1048576) (h : RdIs B w g v rest false) :
    Calls Tryz.prog 61 #[.pointer (some ⟨g, 0, none⟩), .int .i64 (n : Int)] w fun e w' => RetWN B g w rest n e w' := by
  have HN := hide (num_any B g w v rest false n hn hl h)
  clear h
  by_cases hc : n ≤ rest.length
  · have HRD := hide (show rdN n rest = some (numL (rest.take n), rest.drop n) from rdN_much hc)
    unfold RetNum at HN
    rw [show takeL n rest = rest.take n by unfold takeL; rw [if_pos hc], show leftL n rest = rest.drop n by unfold leftL; rw [if_pos hc], show shortB n rest false = false by unfold shortB; rw [if_pos hc]] at HN
    clear hc
    go_enter Tryz.func61, Tryz.ntmps61
    go_wp2_with fail
    refine (unhide HN).mono ?_
    rintro e w1 ⟨v1, rfl, R1, T1⟩
    clear HN
    go_wp2_with fail
    refine (must_ok B g w1 _ _ (unhide R1)).mono ?_
    rintro e w2 ⟨rfl, hw⟩
    rw [hw]
    clear hw
    go_wp2_with fail
    go_ret
    exact .inl ⟨_, _, v1, unhide HRD, rfl, R1, T1⟩
  · have HRD := hide (show rdN n rest = none from rdN_few (by omega))
    unfold RetNum at HN
    rw [show shortB n rest false = true by unfold shortB; rw [if_neg hc]] at HN
    clear hc
    go_enter Tryz.func61, Tryz.ntmps61
    go_wp2_with fail
    refine (unhide HN).mono ?_
    rintro e w1 ⟨v1, rfl, R1, T1⟩
    clear HN
    go_wp2_with fail
    refine (must_few B g w1 _ _ (unhide R1)).mono ?_
    rintro e w2 ⟨rfl, hw⟩
    rw [hw]
    clear hw
    exact ⟨rfl, .inr ⟨unhide HRD, rfl, T1⟩⟩
theorem text_parts (rest : List UInt8) : (∃ s r, rdT rest = some (s, r) ∧ (⟨(takeL (numL (takeL 1 rest)).toNat (leftL 1 rest)).toArray⟩ : ByteArray) = s ∧ leftL (numL (takeL 1 rest)).toNat (leftL 1 rest) = r ∧ shortB (numL (takeL 1 rest)).toNat (leftL 1 rest) (shortB 1 rest false) = false) ∨ (rdT rest = none ∧ shortB (numL (takeL 1 rest)).toNat (leftL 1 rest) (shortB 1 rest false) = true) := by
  by_cases h1 : 1 ≤ rest.length
  · have e1 : takeL 1 rest = rest.take 1 := by unfold takeL; rw [if_pos h1]
    have e2 : leftL 1 rest = rest.drop 1 := by unfold leftL; rw [if_pos h1]
    have e3 : shortB 1 rest false = false := by unfold shortB; rw [if_pos h1]
    have er : rdN 1 rest = some (numL (rest.take 1), rest.drop 1) := rdN_much h1
    rw [e1, e2, e3]
    unfold rdT
    rw [er]
    simp only [Option.bind_some]
    generalize (numL (rest.take 1)).toNat = k
    generalize rest.drop 1 = r
    by_cases h2 : k ≤ r.length
    · left
      exact ⟨_, _, by unfold rdB; rw [if_pos h2], by unfold takeL; rw [if_pos h2], by unfold leftL; rw [if_pos h2], by unfold shortB; rw [if_pos h2]⟩
    · right
      exact ⟨by unfold rdB; rw [if_neg h2], by unfold shortB; rw [if_neg h2]⟩
  · right
    refine ⟨by unfold rdT; rw [rdN_few (by omega)]; rfl, ?_⟩
    have e3 : shortB 1 rest false = true := by unfold shortB; rw [if_neg h1]
    rw [e3]
    unfold shortB
    split <;> rfl
set_option maxHeartbeats 1600000 in
theorem wtext_any (B g : Nat) (w : World) (v : Value) (rest : List UInt8) (hl : rest.length ≤ 1048576) (h : RdIs B w g v rest false) :
    Calls Tryz.prog 62 #[.pointer (some ⟨g, 0, none⟩)] w fun e w' => RetWT B g w rest e w' := by
  have HN := hide (text_any B g w v rest false hl h)
  clear h
  unfold RetText at HN
  rcases text_parts rest with ⟨s, r, h1, h2, h3, h4⟩ | ⟨h1, h4⟩
  · rw [h2, h3, h4] at HN
    have HRD := hide h1
    clear h1 h2 h3 h4
    go_enter Tryz.func62, Tryz.ntmps62
    go_wp2_with fail
    refine (unhide HN).mono ?_
    rintro e w1 ⟨v1, rfl, R1, T1⟩
    clear HN
    go_wp2_with fail
    refine (must_ok B g w1 _ _ (unhide R1)).mono ?_
    rintro e w2 ⟨rfl, hw⟩
    rw [hw]
    clear hw
    go_wp2_with fail
    go_ret
    exact .inl ⟨_, _, v1, unhide HRD, rfl, R1, T1⟩
  · rw [h4] at HN
    have HRD := hide h1
    clear h1 h4
    go_enter Tryz.func62, Tryz.ntmps62
    go_wp2_with fail
    refine (unhide HN).mono ?_
    rintro e w1 ⟨v1, rfl, R1, T1⟩
    clear HN
    go_wp2_with fail
    refine (must_few B g w1 _ _ (unhide R1)).mono ?_
    rintro e w2 ⟨rfl, hw⟩
    rw [hw]
    clear hw
    exact ⟨rfl, .inr ⟨unhide HRD, rfl, T1⟩⟩
end Go.Proofs.YtiebfcefmdiajaaGreatDoor
