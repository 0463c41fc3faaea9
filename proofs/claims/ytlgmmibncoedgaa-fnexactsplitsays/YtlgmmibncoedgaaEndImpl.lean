/-
  The program's SplitEnd.
-/
import Derived.Test.YtlgmmibncoedgaaEndIter
import Derived.Deep.RegionHeld
import Derived.Deep.DeepCutAuto
import Derived.Deep.CutBlock
set_option linter.unusedVariables false
namespace Go.Proofs.Ytlgmmibncoedgaa
open Go.RowKit Go.Maps Go.Deep Go.Shelf

set_option maxHeartbeats 1600000 in
theorem countableE_any (a : Option Addr) (n c : Nat) (lost more : Int) (w : World) (h0 : 0 ≤ more) (h1 : more ≤ 100000000) :
    Calls Try.prog 42 #[.agg #[.slice a n c, .int .i64 lost], .int .i64 more] w fun e w' => e = .returned (.bool (decide (lost ≤ 9223372036854775807 - more))) ∧ Below w.heap.size w w' := by
  go_enter Try.func42, Try.ntmps42
  go_wp2_with fail
  go_ret
  exact ⟨rfl, by go_grown⟩
set_option maxRecDepth 20000 in
set_option maxHeartbeats 25600000 in
theorem implEnd_any (d : SplitV) (v : Value) (w : World) (hs : SmallSplit d) (h : SplitRd w v d) :
    Calls Try.prog 41 #[v] w fun e w' => RetEndI d w e w' := by
  obtain ⟨v0, rfl, h0⟩ := h
  obtain ⟨buf, lost⟩ := d
  obtain ⟨a, c, hv⟩ := h0.len
  subst hv
  have hsb : buf.length ≤ 1048576 := hs
  simp only at h0 ⊢
  have x0 := boxF_new w [.slice a buf.length c, .int .i64 lost] 35
  have bA := (Below.refl w.heap.size w).alloc (Nat.le_refl _) (.cells #[.slice a buf.length c, .int .i64 lost] 35)
  simp only [List.toArray] at x0 bA
  have HOK := hide (implSplitOk_any ⟨buf, lost⟩ (.agg #[.slice a buf.length c, .int .i64 lost]) _ hs ⟨_, rfl, h0.up bA⟩)
  have H0 := hide h0
  obtain ⟨n, hn⟩ : ∃ n, n = buf.length := ⟨_, rfl⟩
  have HN := hide hn
  rw [← hn] at x0 bA HOK hsb H0 ⊢
  have X0 := hide x0
  have BA := hide bA
  clear x0 bA h0 hs hn
  go_enter Try.func41, Try.ntmps41
  go_wp2_with fail
  generalize w.alloc (.cells #[.slice a n c, .int .i64 lost] 35) = W2 at *
  refine (unhide HOK).mono ?_
  rintro e w3 ⟨rfl, b3⟩
  have B3 := hide ((unhide BA).trans (b3.mono (unhide BA).size))
  have XS3 := hide ((unhide X0).up b3)
  obtain ⟨⟨s0, s1⟩, -⟩ := two33 (unhide XS3)
  clear b3 BA X0 HOK
  cases hok : splitOkB ⟨buf, lost⟩
  · have HNO := hide (show endB ⟨buf, lost⟩ = false by unfold endB; rw [hok]; rfl)
    clear hok
    go_wp2_with fail
    go_ret2
    exact retEndI_no (unhide HNO) (unhide B3)
  · obtain ⟨hb270, hlost⟩ := ok_len hok
    simp only at hb270 hlost
    rw [← unhide HN] at hb270
    have HCN := hide (countableE_any a n c lost (n : Int) w3 (by omega) (by omega))
    go_wp2_with fail
    refine (unhide HCN).mono ?_
    rintro e w4 ⟨rfl, b4⟩
    have B4 := hide ((unhide B3).trans (b4.mono (unhide B3).size))
    have XS4 := hide ((unhide XS3).up b4)
    clear b4 B3 XS3 s0 s1 HCN
    obtain ⟨⟨s0, s1⟩, -⟩ := two33 (unhide XS4)
    by_cases g3 : 9223372036854775807 - (n : Int) < lost
    · have HNO := hide (show endB ⟨buf, lost⟩ = false by unfold endB; rw [decide_eq_false (show ¬ lost ≤ 9223372036854775807 - (buf.length : Int) by rw [← unhide HN]; omega)]; simp)
      rw [decide_eq_false (show ¬ lost ≤ 9223372036854775807 - (n : Int) by omega)]
      clear hok
      go_wp2_with fail
      go_ret2
      exact retEndI_no (unhide HNO) (unhide B4)
    · have HYES := hide (show endB ⟨buf, lost⟩ = true by unfold endB; rw [hok, decide_eq_true (show lost ≤ 9223372036854775807 - (buf.length : Int) by rw [← unhide HN]; omega)]; rfl)
      rw [decide_eq_true (show lost ≤ 9223372036854775807 - (n : Int) by omega)]
      clear hok
      have HL5 := hide (show Lis (w4.alloc (.cells #[.slice a n c, .int .i64 lost] 76)) w4.heap.size a n c lost from World.alloc_heap_new _ _)
      have HB5 := hide ((Below.refl w4.heap.size w4).alloc (Nat.le_refl _) (.cells #[.slice a n c, .int .i64 lost] 76))
      have HZ5 := hide (show (w4.alloc (.cells #[.slice a n c, .int .i64 lost] 76)).heap.size = w4.heap.size + 1 by simp)
      go_wp2_with fail
      generalize w4.alloc (.cells #[.slice a n c, .int .i64 lost] 76) = W5 at *
      refine (lastBodies_any W5 w4.heap.size).mono ?_
      rintro e w6 ⟨rfl, hw6⟩
      have b6 : Below W5.heap.size W5 w6 := by rw [hw6]; exact (Below.refl _ _).alloc (Nat.le_refl _) _
      have P6 : Boxed w6 W5.heap.size 109 (.pointer (some ⟨w4.heap.size, 0, none⟩)) := by rw [hw6]; exact Boxed.new _ _ _
      have HBW := hide (((unhide B4).trans ((unhide HB5).mono (unhide B4).size)).trans (b6.mono ((unhide B4).trans ((unhide HB5).mono (unhide B4).size)).size))
      have HC := hide (collectEnd_any w.heap.size W5.heap.size w4.heap.size w6.heap.size (unhide B4).size buf (by rw [← unhide HN]; omega) lost hlost (by rw [← unhide HN]; omega) (by have := unhide HZ5; omega) w6 a c (Nat.le_refl _) (by rw [← unhide HN]; exact (unhide HL5).up b6) P6 (by rw [← unhide HN]; exact (ByU.of_rd (unhide H0)).keepG (KeepG.below (unhide HBW) (Nat.le_refl _))))
      have HZ6 := hide (show w.heap.size ≤ w4.heap.size ∧ w4.heap.size < w6.heap.size from ⟨(unhide B4).size, by have := b6.size; have := unhide HZ5; omega⟩)
      clear hw6 b6 P6 s0 s1 XS4 HL5 HB5 B4
      go_wp2_with fail
      refine (unhide HC).mono ?_
      rintro e w7 ⟨ra, rn, rc, pre, rfl, RV, HS, HT⟩
      obtain ⟨RI, la, lc, hL⟩ := unhide HS
      obtain ⟨c0, c1⟩ := hL.cells
      have HR := hide (fun (W : World) (b : Below w7.heap.size w7 W) => show RetEndI ⟨buf, lost⟩ w (.returned (.tuple #[.slice ra rn rc, .int .i64 (lost + ((endW buf).2 : Int))])) W from by
        obtain ⟨Q, OW, QG⟩ := bss_own (unhide RV) RI
        have hz := unhide HZ6
        exact ⟨_, Q, by unfold endI; rw [unhide HYES]; rfl, hide (by unfold endH; rw [unhide HYES]; exact OW.turn (Turn.of_below (S := []) b) (by simp)), hide (fun k hk => by have := QG k hk; omega), ((unhide HBW).trans ((unhide HT).below (unhide HBW).size (by simp; omega))).trans (b.mono ((unhide HBW).trans ((unhide HT).below (unhide HBW).size (by simp; omega))).size)⟩)
      clear RV HS HT RI hL HC HBW
      generalize (endW buf).2 = q at *
      go_wp2_with fail
      have hS : w7.drew.cell? ⟨w4.heap.size, 1, none⟩ = some (.int .i64 (lost + (q : Int))) := c1
      have HR7 := hide (unhide HR w7.drew (Below.refl _ _).drew)
      clear c0 c1 HR
      refine wp_region_held_drew (S := fun X : World => X.cell? ⟨w4.heap.size, 1, none⟩ = some (.int .i64 (lost + (q : Int)))) (by kernel_rfl) hS ?_
      intro hS
      generalize w7.drew = VD at *
      refine wpAnyH_take (i := 0) (v := .slice ra rn rc) rfl (by kernel_rfl) (by kernel_rfl) (by kernel_rfl) (fun _ _ _ h => h) (Or.inl ⟨by rfl, ?_⟩) hS ?_
      · intro X hX
        clear hS
        go_simp
        try with_reducible rfl
      try simp [Act.put]
      refine wpAnyH_take (i := 1) (v := .pointer (some ⟨w4.heap.size, 1, none⟩)) rfl (by kernel_rfl) (by kernel_rfl) (by kernel_rfl) (fun _ _ _ h => h) (Or.inl ⟨by rfl, ?_⟩) hS ?_
      · intro X hX
        clear hS
        go_simp
        try with_reducible rfl
      try simp [Act.put]
      refine wpAnyH_take (i := 2) (v := .int .i64 (lost + (q : Int))) rfl (by kernel_rfl) (by kernel_rfl) (by kernel_rfl) (fun _ _ _ h => h) (Or.inl ⟨by rfl, ?_⟩) hS ?_
      · intro X hX
        clear hS
        go_simp
        try with_reducible rfl
      try simp [Act.put]
      refine wpAnyH_take (i := 3) (v := .slice ra rn rc) rfl (by kernel_rfl) (by kernel_rfl) (by kernel_rfl) (fun _ _ _ h => h) (Or.inl ⟨by rfl, ?_⟩) hS ?_
      · intro X hX
        clear hS
        go_simp
        try with_reducible rfl
      try simp [Act.put]
      refine wpAnyH_take (i := 4) (v := .int .i64 (lost + (q : Int))) rfl (by kernel_rfl) (by kernel_rfl) (by kernel_rfl) (fun _ _ _ h => h) (Or.inl ⟨by rfl, ?_⟩) hS ?_
      · intro X hX
        clear hS
        go_simp
        try with_reducible rfl
      try simp [Act.put]
      refine wpAnyH_done (by kernel_rfl) ?_ _
      clear hS
      go_wp2_with fail
      go_ret2
      exact unhide HR7
end Go.Proofs.Ytlgmmibncoedgaa
