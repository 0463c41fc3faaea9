/-
  The program's way to the line of an instruction.
-/
import Derived.Test.YtmogeifejolbdaaDoorCodeText
import Derived.Test.YtmogeifejolbdaaDoorItoa
set_option linter.unusedVariables false
namespace Go.Proofs.YtmogeifejolbdaaDoor
open Go.RowKit Go.Maps Go.Deep

theorem word_at {w : World} {g : Nat} {ss : List ByteArray} (h : WordsIn w g ss) (k : Nat) (hk : k < ss.length) : w.cell? ⟨g, k, none⟩ = some (.string (ss.getD k ⟨#[]⟩)) := by
  rw [List.getD_eq_getElem?_getD, List.getElem?_eq_getElem hk]
  exact h.2 k hk

set_option maxRecDepth 20000 in
set_option maxHeartbeats 1600000 in
theorem insLine_any (w : World) (op a : Int) (s : ByteArray) (n : Int) (h : insB op a s n = true) (ha : IntFit a) (hsg : SignsIn w) (hin : InsIn' w) (hp : PowIn w) :
    Calls Tryd.prog 22 #[.agg #[.int .i64 op, .int .i64 a, .string s]] w fun e w' => e = .returned (.string (lineT op a s)) ∧ Below w.heap.size w w' := by
  have bA := ((Below.refl w.heap.size w).alloc (Nat.le_refl _) (.cells #[.int .i64 op, .int .i64 a, .string s] 37))
  have HB := hide bA
  have HC := hide (ins_cases h)
  have HSZ := hide (itoaB_size a ha.1 ha.2)
  have HA := hide ha
  have SG := hide (hsg.below bA (Nat.le_refl _))
  have HI := hide (WordsIn.below hin bA (Nat.le_refl _))
  have HP := hide (hp.below bA (Nat.le_refl _))
  have hz0 : w.heap.size < (w.alloc (.cells #[.int .i64 op, .int .i64 a, .string s] 37)).heap.size := by simp
  have hg0 : 0 < w.heap.size := hin.1
  clear h ha hsg hin hp bA
  rcases unhide HC with c | (⟨rfl, c⟩ | ⟨rfl, c⟩) | ⟨rfl, hs⟩ | c
  · clear HC HSZ HP SG
    rcases c with rfl | rfl | rfl
    · have c1 := word_at (unhide HI) 1 (by rw [ins_len]; omega)
      go_enter Tryd.func22, Tryd.ntmps22
      go_wp2
      go_ret
      exact ⟨rfl, unhide HB⟩
    · have c1 := word_at (unhide HI) 10 (by rw [ins_len]; omega)
      go_enter Tryd.func22, Tryd.ntmps22
      go_wp2
      go_ret
      exact ⟨rfl, unhide HB⟩
    · have c1 := word_at (unhide HI) 11 (by rw [ins_len]; omega)
      go_enter Tryd.func22, Tryd.ntmps22
      go_wp2
      go_ret
      exact ⟨rfl, unhide HB⟩
  · clear HC HSZ HP HI
    have hk : 0 ≤ a ∧ a < 21 := by simp [oneB] at c; omega
    obtain ⟨k, rfl⟩ := Int.eq_ofNat_of_zero_le hk.1
    have hk2 : k < 21 := by omega
    have c1 := word_at (unhide SG) k (by rw [sign_len]; omega)
    clear hk c
    go_enter Tryd.func22, Tryd.ntmps22
    go_wp2
    go_ret
    exact ⟨rfl, unhide HB⟩
  · clear HC HSZ HP HI
    have hk : 0 ≤ a ∧ a < 21 := by simp [twoB] at c; omega
    obtain ⟨k, rfl⟩ := Int.eq_ofNat_of_zero_le hk.1
    have hk2 : k < 21 := by omega
    have c1 := word_at (unhide SG) k (by rw [sign_len]; omega)
    clear hk c
    go_enter Tryd.func22, Tryd.ntmps22
    go_wp2
    go_ret
    exact ⟨rfl, unhide HB⟩
  · clear HC HSZ HP SG HA
    have c1 := word_at (unhide HI) 3 (by rw [ins_len]; omega)
    have hs' : (s.size : Int) ≤ 8 := by omega
    have hF := hide (show lineT 3 a s = (insL.getD 3 ⟨#[]⟩ ++ ⟨#[32]⟩) ++ s from rfl)
    have hG0 : (insL.getD 3 ⟨#[]⟩).size ≤ 5 := by decide
    generalize insL.getD 3 ⟨#[]⟩ = G at c1 hF hG0
    have ha0 : ¬ 9223372036854775807 < G.size + 1 := by omega
    have ha1 : ¬ 9223372036854775807 < G.size + 1 + s.size := by omega
    go_enter Tryd.func22, Tryd.ntmps22
    go_wp2
    have e0 : (w.alloc (.cells #[.int .i64 3, .int .i64 a, .string s] 37)).drew.cell? ⟨w.heap.size, 0, none⟩ = some (.int .i64 3) := by
      exact World.cell?_alloc_at _ _ _ _ rfl
    have e2 : (w.alloc (.cells #[.int .i64 3, .int .i64 a, .string s] 37)).drew.cell? ⟨w.heap.size, 2, none⟩ = some (.string s) := by
      exact World.cell?_alloc_at _ _ _ _ rfl
    have e1 : (w.alloc (.cells #[.int .i64 3, .int .i64 a, .string s] 37)).drew.cell? ⟨0, 3, none⟩ = some (.string G) := c1
    generalize hW : (w.alloc (.cells #[.int .i64 3, .int .i64 a, .string s] 37)) = W at e0 e1 e2 ⊢
    have HBW := hide (show Below w.heap.size w W.drew by rw [← hW]; exact (unhide HB).drew)
    clear hW c1 HB HI hz0
    go_region_held3 (fun w' => w' = W.drew) (rfl) (fail)
    go_wp2
    go_ret
    exact ⟨by rw [unhide hF]; rfl, unhide HBW⟩
  · clear HC SG
    have hz : ((itoaB a).size : Int) ≤ 20 := by have := unhide HSZ; omega
    have hz2 := unhide HSZ
    have hop : 0 ≤ op ∧ op < 12 := by omega
    obtain ⟨k, rfl⟩ := Int.eq_ofNat_of_zero_le hop.1
    have hk2 : k < 12 := by omega
    have hkk : (k : Int) < 12 := by omega
    have c1 := word_at (unhide HI) k (by rw [ins_len]; omega)
    have hF := hide (show lineT k a s = (insL.getD k ⟨#[]⟩ ++ ⟨#[32]⟩) ++ itoaB a by unfold lineT; rw [if_neg (by omega), if_neg (by omega), if_neg (by omega)]; rfl)
    have hG0 : (insL.getD k ⟨#[]⟩).size ≤ 5 := by
      have h1 : ∀ t ∈ insL, t.size ≤ 5 := by decide
      rw [List.getD_eq_getElem?_getD, List.getElem?_eq_getElem (show k < insL.length by rw [ins_len]; omega)]
      exact h1 _ (List.getElem_mem _)
    generalize insL.getD k ⟨#[]⟩ = G at c1 hF hG0
    generalize hI : itoaB a = I at hz hz2 hF
    have HIT := hide hI
    clear hI
    have ha0 : ¬ 9223372036854775807 < G.size + 1 := by omega
    have ha1 : ¬ 9223372036854775807 < G.size + 1 + I.size := by omega
    have k1 : ((k : Int) == 1) = false := by simp; omega
    have k10 : ((k : Int) == 10) = false := by simp; omega
    have k11 : ((k : Int) == 11) = false := by simp; omega
    have k6 : ((k : Int) == 6) = false := by simp; omega
    have k7 : ((k : Int) == 7) = false := by simp; omega
    have k3 : ((k : Int) == 3) = false := by simp; omega
    clear c hop
    go_enter Tryd.func22, Tryd.ntmps22
    go_wp2
    have e0 : (w.alloc (.cells #[.int .i64 k, .int .i64 a, .string s] 37)).cell? ⟨w.heap.size, 0, none⟩ = some (.int .i64 k) := by
      exact World.cell?_alloc_at _ _ _ _ rfl
    have e2 : (w.alloc (.cells #[.int .i64 k, .int .i64 a, .string s] 37)).cell? ⟨w.heap.size, 1, none⟩ = some (.int .i64 a) := by
      exact World.cell?_alloc_at _ _ _ _ rfl
    generalize hW : (w.alloc (.cells #[.int .i64 k, .int .i64 a, .string s] 37)) = W at e0 c1 e2 hz0 ⊢
    have HBW := hide (show Below w.heap.size w W by rw [← hW]; exact unhide HB)
    have HPW := hide (show PowIn W by rw [← hW]; exact unhide HP)
    have hgw : 0 < W.heap.size := by omega
    have HITW : Hid (∀ w', Below W.heap.size W w' → Calls Tryd.prog 35 #[.int .i64 a] w' fun e w5 => e = .returned (.string I) ∧ Below W.heap.size W w5) := by
      refine hide fun w' hw' => ?_
      refine (itoa_any a (unhide HA).1 (unhide HA).2 w' ((unhide HPW).below hw' (Nat.le_refl _))).mono ?_
      rw [unhide HIT]
      rintro e w5 ⟨rfl, hb5⟩
      exact ⟨rfl, hw'.trans (hb5.mono hw'.size)⟩
    clear hW HB HI HP
    have KEEP : ∀ w', Below W.heap.size W w' → (w'.cell? ⟨w.heap.size, 0, none⟩ = some (.int .i64 k) ∧ w'.cell? ⟨w.heap.size, 1, none⟩ = some (.int .i64 a) ∧ w'.cell? ⟨0, k, none⟩ = some (.string G)) ∧ Below W.heap.size W w' := fun w' h => ⟨⟨(h.cell (by exact hz0)).trans e0, (h.cell (by exact hz0)).trans e2, (h.cell (by exact hgw)).trans c1⟩, h⟩
    go_region_held3 (fun w' => (w'.cell? ⟨w.heap.size, 0, none⟩ = some (.int .i64 k) ∧ w'.cell? ⟨w.heap.size, 1, none⟩ = some (.int .i64 a) ∧ w'.cell? ⟨0, k, none⟩ = some (.string G)) ∧ Below W.heap.size W w') ((refine KEEP _ ?_; first | assumption | exact below_dn (Below.refl _ _) 1))
      (first
        | (go_at_call 35; refine (unhide HITW _ (And.right (by assumption))).mono ?_; rintro e w5 ⟨rfl, hW5⟩))
    go_wp2
    go_ret
    exact ⟨by rw [unhide hF]; rfl, (unhide HBW).trans (hW5.mono (unhide HBW).size)⟩

end Go.Proofs.YtmogeifejolbdaaDoor
