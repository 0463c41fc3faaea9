/-
  The program's tables of words (one word a sign, one an instruction), as they lie in their variables; and what a sign takes.
-/
import Derived.Test.YtoehjbehfolekaaDoorShapes
import Derived.Test.YtoehjbehfolekaaDoorSmall
namespace Go.Proofs.YtoehjbehfolekaaDoor
open Go.RowKit Go.Maps

/-- a table of words lies in its variable -/
def WordsIn (w : World) (g : Nat) (ss : List ByteArray) : Prop := g < w.heap.size ∧ ∀ k (h : k < ss.length), w.cell? ⟨g, k, none⟩ = some (.string ss[k])
theorem WordsIn.below {w w' : World} {B g : Nat} {ss : List ByteArray} (h : WordsIn w g ss) (hb : Below B w w') (hB : w.heap.size ≤ B) : WordsIn w' g ss :=
  ⟨Nat.lt_of_lt_of_le h.1 hb.size, fun k hk => (hb.cell (Nat.lt_of_lt_of_le h.1 hB)).trans (h.2 k hk)⟩

def signL : List ByteArray := [⟨#[]⟩, ⟨#[]⟩, ⟨#[]⟩, ⟨#[110, 101, 103]⟩, ⟨#[110, 111, 116]⟩, ⟨#[109, 117, 108]⟩, ⟨#[100, 105, 118]⟩, ⟨#[109, 111, 100]⟩, ⟨#[97, 100, 100]⟩, ⟨#[115, 117, 98]⟩, ⟨#[101, 113]⟩, ⟨#[110, 101]⟩, ⟨#[108, 116]⟩, ⟨#[108, 101]⟩, ⟨#[103, 116]⟩, ⟨#[103, 101]⟩, ⟨#[]⟩, ⟨#[]⟩, ⟨#[109, 105, 110]⟩, ⟨#[109, 97, 120]⟩, ⟨#[97, 98, 115]⟩]
def insL : List ByteArray := [⟨#[]⟩, ⟨#[116, 105, 99, 107]⟩, ⟨#[112, 117, 115, 104]⟩, ⟨#[108, 111, 97, 100]⟩, ⟨#[103, 101, 116]⟩, ⟨#[112, 117, 116]⟩, ⟨#[]⟩, ⟨#[]⟩, ⟨#[106, 117, 109, 112]⟩, ⟨#[122, 101, 114, 111]⟩, ⟨#[98, 111, 111, 108]⟩, ⟨#[116, 105, 109, 101, 115]⟩]
def SignsIn (w : World) : Prop := WordsIn w 0 signL
theorem sign_len : signL.length = 21 := rfl

def oneB (a : Int) : Bool := decide (a = 3 ∨ a = 4 ∨ a = 20)
def twoB (a : Int) : Bool := decide ((5 ≤ a ∧ a ≤ 15) ∨ a = 18 ∨ a = 19)
/-- a sign of so many numbers: it has a word, and its shape has so many kids -/
def takesB (a n : Int) : Bool := decide (0 ≤ a) && decide (a < 21) && decide ((signL.getD a.toNat ⟨#[]⟩).size ≠ 0) && decide ((shapesL.getD a.toNat (0, 0, ⟨#[]⟩)).1 = n)
theorem takes_low (a n : Int) (h : ¬ 0 ≤ a) : takesB a n = false := by simp [takesB, h]
theorem takes_high (a n : Int) (h : ¬ a < 21) : takesB a n = false := by simp [takesB, h]
theorem takes_in (k : Nat) (n : Int) (h : k < 21) : takesB k n = (decide (¬ (signL[k]'(by rw [sign_len]; omega)).size = 0) && decide ((shapesL[k]'(by rw [shapes_len]; omega)).1 = n)) := by
  have e1 : signL.getD k ⟨#[]⟩ = signL[k]'(by rw [sign_len]; omega) := by rw [List.getD_eq_getElem?_getD, List.getElem?_eq_getElem (by rw [sign_len]; omega)]; rfl
  have e2 : shapesL.getD k (0, 0, ⟨#[]⟩) = shapesL[k]'(by rw [shapes_len]; omega) := by rw [List.getD_eq_getElem?_getD, List.getElem?_eq_getElem (by rw [shapes_len]; omega)]; rfl
  unfold takesB
  rw [show ((k : Int)).toNat = k by omega, e1, e2]
  simp [show (k : Int) < 21 by omega]
theorem takes_one (a : Int) : takesB a 1 = oneB a := by
  by_cases h0 : 0 ≤ a
  · by_cases h1 : a < 21
    · obtain ⟨k, rfl⟩ := Int.eq_ofNat_of_zero_le h0
      have hk : k < 21 := by omega
      clear h0 h1
      match k, hk with
      | 0, _ | 1, _ | 2, _ | 3, _ | 4, _ | 5, _ | 6, _ | 7, _ | 8, _ | 9, _ | 10, _ | 11, _ | 12, _ | 13, _ | 14, _ | 15, _ | 16, _ | 17, _ | 18, _ | 19, _ | 20, _ => decide
      | n + 21, h => exact absurd h (by omega)
    · rw [takes_high a 1 h1]; symm; simp [oneB]; omega
  · rw [takes_low a 1 h0]; symm; simp [oneB]; omega
theorem takes_two (a : Int) : takesB a 2 = twoB a := by
  by_cases h0 : 0 ≤ a
  · by_cases h1 : a < 21
    · obtain ⟨k, rfl⟩ := Int.eq_ofNat_of_zero_le h0
      have hk : k < 21 := by omega
      clear h0 h1
      match k, hk with
      | 0, _ | 1, _ | 2, _ | 3, _ | 4, _ | 5, _ | 6, _ | 7, _ | 8, _ | 9, _ | 10, _ | 11, _ | 12, _ | 13, _ | 14, _ | 15, _ | 16, _ | 17, _ | 18, _ | 19, _ | 20, _ => decide
      | n + 21, h => exact absurd h (by omega)
    · rw [takes_high a 2 h1]; symm; simp [twoB]; omega
  · rw [takes_low a 2 h0]; symm; simp [twoB]; omega

set_option maxHeartbeats 800000 in
theorem signTakes_any (w : World) (a n : Int) (hsh : ShapesIn w) (hsg : SignsIn w) :
    Calls Tryd.prog 77 #[.int .i64 a, .int .i64 n] w fun e w' => e = .returned (.bool (takesB a n)) ∧ w' = w := by
  by_cases h0 : 0 ≤ a
  · by_cases h1 : a < 21
    · obtain ⟨k, rfl⟩ := Int.eq_ofNat_of_zero_le h0
      have hk : k < 21 := by omega
      have c1 := hsg.2 k (by rw [sign_len]; omega)
      have c2 := (hsh.2 k (by rw [shapes_len]; omega)).1
      have ht := hide (takes_in k n hk)
      generalize (signL[k]'(by rw [sign_len]; omega)) = s at c1 ht
      generalize (shapesL[k]'(by rw [shapes_len]; omega)).1 = m at c2 ht
      by_cases hs : s.size = 0
      · have hse := str_empty s hs
        have hf := hide (show takesB k n = false by rw [unhide ht]; simp [hs])
        clear ht hs hsh hsg
        go_enter Tryd.func77, Tryd.ntmps77
        go_wp2
        go_ret
        exact ⟨ret_bool (unhide hf).symm, rfl⟩
      · have hse := str_full s hs
        have hf := hide (show takesB k n = decide (m = n) by rw [unhide ht]; simp [hs])
        clear ht hs hsh hsg
        go_enter Tryd.func77, Tryd.ntmps77
        go_wp2
        go_ret
        exact ⟨ret_bool (unhide hf).symm, rfl⟩
    · have hf := hide (takes_high a n h1)
      go_enter Tryd.func77, Tryd.ntmps77
      go_wp2
      go_ret
      exact ⟨ret_bool (unhide hf).symm, rfl⟩
  · have hf := hide (takes_low a n h0)
    go_enter Tryd.func77, Tryd.ntmps77
    go_wp2
    go_ret
    exact ⟨ret_bool (unhide hf).symm, rfl⟩

end Go.Proofs.YtoehjbehfolekaaDoor
