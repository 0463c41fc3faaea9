/-
  DiskSync of the specification.
-/
import Derived.Test.YtddmomcanakoiaaSpecBurn
import Derived.Test.YtddmomcanakoiaaMerged6
set_option linter.unusedVariables false
namespace Go.Proofs.Ytddmomcanakoiaa
open Go.RowKit Go.Maps Go.Deep

set_option maxHeartbeats 6400000 in
theorem specSync_any (d : DiskV) (v : Value) (w : World) (hs : SmallDisk d) (h : DiskRd w v d) : Calls Try.prog 41 #[v] w fun e w' => RetDiskI (syncV d) (syncI d) w e w' := by
  have HK := hide (fun W (b : Below w.heap.size w W) => specDiskOk_any d v W ⟨by have := hs.1; unfold maxLen; omega, by have := hs.2; unfold maxLen; omega⟩ (h.up b))
  have HD := hide (fun W (b : Below w.heap.size w W) => h.up b)
  obtain ⟨v0, v1, rfl, h0, h1⟩ := h
  obtain ⟨p0, p2, rfl⟩ := h0.len
  obtain ⟨p3, p5, rfl⟩ := h1.len
  clear h0 h1
  have X0 := hide ((boxF_new4 w (.slice p0 d.safe.length p2) (.slice p3 d.soft.length p5) (.int .i64 d.fuse) (.bool d.down) 35).up ((Below.refl _ _).alloc (Nat.le_refl _) (.cells #[.slice none 0 0, .slice none 0 0, .int .i64 0, .bool false] 35)))
  have Y0 := hide (boxF_new4 (w.alloc (.cells #[.slice p0 d.safe.length p2, .slice p3 d.soft.length p5, .int .i64 d.fuse, .bool d.down] 35)) (.slice none 0 0) (.slice none 0 0) (.int .i64 0) (.bool false) 35)
  have noway : ∀ w1, Below w.heap.size w w1 → ∀ W, Turn [w.heap.size + 1] w1 W → RetDiskI noDisk 1 w (.returned (.tuple #[.agg #[.slice none 0 0, .slice none 0 0, .int .i64 0, .bool false], .int .i64 1])) W := fun w1 b1 W ht => retDiskI_no (b1.trans (ht.below b1.size (fun k hk => by simp at hk; omega)))
  have NW := hide noway
  have hs1 : d.safe.length ≤ 1048576 := hs.1
  have hs2 : d.soft.length ≤ 1048576 := hs.2
  clear noway
  cases hok : diskOkB d
  · obtain ⟨e1, e2⟩ := sync_no hok
    rw [e1, e2]
    clear e1 e2 HD hs
    rw [hok] at HK
    clear hok
    go_enter Try.func41, Try.ntmps41
    go_wp2_with fail
    refine (unhide HK _ (by go_grown)).mono ?_
    rintro e w1 ⟨rfl, b1⟩
    have Y1 := hide (show BoxF w1 (w.heap.size + 1) [.slice none 0 0, .slice none 0 0, .int .i64 0, .bool false] by simpa using (unhide Y0).up b1)
    have B1 := hide (show Below w.heap.size w w1 from Below.trans (by go_grown) (b1.mono (by simp; omega)))
    clear b1 X0 Y0
    obtain ⟨⟨y0, y1, y2, y3⟩, j0, j1, j2, j3⟩ := (unhide Y1).four
    go_wp2_with fail
    refine bodyPost_ret (v := .tuple #[.agg #[.slice none 0 0, .slice none 0 0, .int .i64 0, .bool false], .int .i64 1]) (by simp [results, Try.results41, go_sem, y0, y1, y2, y3]) rfl ?_
    exact unhide NW w1 (unhide B1) _ (((((Turn.refl _ _).setCell (g := w.heap.size + 1) (by simp) _ _).setCell (g := w.heap.size + 1) (by simp) _ _).setCell (g := w.heap.size + 1) (by simp) _ _).setCell (g := w.heap.size + 1) (by simp) _ _)
  · rw [hok] at HK
    have e1 : syncV d = cutOut d (d.safe.length + d.soft.length) := by simp [syncV, hok]
    have e2 : syncI d = cutCode d := by simp [syncI, hok]
    rw [e1, e2]
    clear e1 e2
    have hsm := disk_small hok
    obtain ⟨hf1, hf2⟩ := diskOk_fuse hok
    have HCP := hide (fun W (b : Below w.heap.size w W) => l6Copy_any d _ W hs (unhide HD W b))
    have HBN := hide (fun W (b : Below w.heap.size w W) => l6Burn_any d _ W hs (unhide HD W b) hf1 hf2)
    clear HD hok
    cases hdn : d.down
    · by_cases hz : d.fuse = 0
      · rw [show cutOut d (d.safe.length + d.soft.length) = fellD d by simp [cutOut, hdn, hz], show cutCode d = 2 by simp [cutCode, hdn, hz]]
        rw [show burnD d = ⟨d.safe ++ d.soft, [], -1, true⟩ by simp [burnD, fellD, hz], show burnB d = false by simp [burnB, hz]] at HBN
        rw [hdn] at X0 Y0 HBN HK
        clear hz hf1 hf2 hdn HCP
        go_enter Try.func41, Try.ntmps41
        go_wp2_with fail
        refine (unhide HK _ (by go_grown)).mono ?_
        rintro e w1 ⟨rfl, b1⟩
        have X1 := hide ((unhide X0).up b1)
        have Y1 := hide (show BoxF w1 (w.heap.size + 1) [.slice none 0 0, .slice none 0 0, .int .i64 0, .bool false] by simpa using (unhide Y0).up b1)
        have B1 := hide (show Below w.heap.size w w1 from Below.trans (by go_grown) (b1.mono (by simp; omega)))
        clear b1 X0 Y0
        obtain ⟨⟨x0, x1, x2, x3⟩, f0, f1, f2, f3⟩ := (unhide X1).four
        go_wp2_with fail
        refine (unhide HBN _ (unhide B1)).mono ?_
        rintro e w2 ⟨a0, m0, c0, a1, m1, c1, rfl, TT, b2⟩
        simp only at TT ⊢
        have HZ1 := hide (unhide Y1).1.1
        have OB := hide (boxF_new4 w2 (.slice a0 m0 c0) (.slice a1 m1 c1) (.int .i64 (-1)) (.bool true) 35)
        have Y2 := hide (((unhide Y1).up b2).up ((Below.refl _ _).alloc (Nat.le_refl _) (.cells #[.slice a0 m0 c0, .slice a1 m1 c1, .int .i64 (-1), .bool true] 35)))
        have b2' := (unhide B1).trans (b2.mono (unhide B1).size)
        have B2 := hide (b2'.alloc b2'.size (.cells #[.slice a0 m0 c0, .slice a1 m1 c1, .int .i64 (-1), .bool true] 35))
        have T2 := hide (show TwoRows w1.heap.size (w2.alloc (.cells #[.slice a0 m0 c0, .slice a1 m1 c1, .int .i64 (-1), .bool true] 35)) _ _ _ _ from ⟨(unhide TT).1.up ((Below.refl _ _).alloc (Nat.le_refl _) _), (unhide TT).2.1.up ((Below.refl _ _).alloc (Nat.le_refl _) _), (unhide TT).2.2⟩)
        have HZ2 := hide (show w1.heap.size ≤ (w2.alloc (.cells #[.slice a0 m0 c0, .slice a1 m1 c1, .int .i64 (-1), .bool true] 35)).heap.size by have := b2.size; simp; omega)
        have HZ3 := hide b2.size
        clear b2 b2' x0 x1 x2 x3 f0 f1 f2 f3 X1 Y1 TT
        obtain ⟨⟨o0, o1, o2, o3⟩, q0, q1, q2, q3⟩ := (unhide OB).four
        obtain ⟨⟨y0, y1, y2, y3⟩, j0, j1, j2, j3⟩ := (unhide Y2).four
        go_wp2_with fail
        generalize w2.alloc (.cells #[.slice a0 m0 c0, .slice a1 m1 c1, .int .i64 (-1), .bool true] 35) = W2 at *
        refine bodyPost_ret (v := .tuple #[.agg #[.slice a0 m0 c0, .slice a1 m1 c1, .int .i64 (-1), .bool true], .int .i64 2]) (by simp [results, Try.results41, go_sem, y0, y1, y2, y3]) rfl ?_
        have key : ∀ W, Turn [w.heap.size + 1] W2 W → RetDiskI (fellD d) 2 w (.returned (.tuple #[.agg #[.slice a0 m0 c0, .slice a1 m1 c1, .int .i64 (-1), .bool true], .int .i64 2])) W := fun W ht =>
          retDiskI_two (res := fellD d) (TwoRows.turn (unhide T2) ht (fun k hk => by have := unhide HZ1; simp at hk; omega)) (unhide B1).size ((unhide B2).trans (ht.below (unhide B2).size (fun k hk => by simp at hk; omega)))
        exact key _ (((((Turn.refl _ _).setCell (g := w.heap.size + 1) (by simp) _ _).setCell (g := w.heap.size + 1) (by simp) _ _).setCell (g := w.heap.size + 1) (by simp) _ _).setCell (g := w.heap.size + 1) (by simp) _ _)
      · rw [show cutOut d (d.safe.length + d.soft.length) = ⟨d.safe ++ d.soft, [], burnI d.fuse, false⟩ by simp [cutOut, hdn, hz, cutD]; rw [← List.length_append, List.take_length], show cutCode d = 0 by simp [cutCode, hdn, hz]]
        rw [show burnD d = ⟨d.safe, d.soft, burnI d.fuse, false⟩ by simp [burnD, hz, hdn], show burnB d = true by simp [burnB, hz]] at HBN
        rw [hdn] at X0 Y0 HBN HK
        clear hz hf1 hf2 hdn HCP
        go_enter Try.func41, Try.ntmps41
        go_wp2_with fail
        refine (unhide HK _ (by go_grown)).mono ?_
        rintro e w1 ⟨rfl, b1⟩
        have X1 := hide ((unhide X0).up b1)
        have Y1 := hide (show BoxF w1 (w.heap.size + 1) [.slice none 0 0, .slice none 0 0, .int .i64 0, .bool false] by simpa using (unhide Y0).up b1)
        have B1 := hide (show Below w.heap.size w w1 from Below.trans (by go_grown) (b1.mono (by simp; omega)))
        clear b1 X0 Y0
        obtain ⟨⟨x0, x1, x2, x3⟩, f0, f1, f2, f3⟩ := (unhide X1).four
        go_wp2_with fail
        refine (unhide HBN _ (unhide B1)).mono ?_
        rintro e w2 ⟨a0, m0, c0, a1, m1, c1, rfl, TT, b2⟩
        simp only at TT ⊢
        have HZ1 := hide (unhide Y1).1.1
        have OB := hide (boxF_new4 w2 (.slice a0 m0 c0) (.slice a1 m1 c1) (.int .i64 (burnI d.fuse)) (.bool false) 35)
        have Y2 := hide (((unhide Y1).up b2).up ((Below.refl _ _).alloc (Nat.le_refl _) (.cells #[.slice a0 m0 c0, .slice a1 m1 c1, .int .i64 (burnI d.fuse), .bool false] 35)))
        have b2' := (unhide B1).trans (b2.mono (unhide B1).size)
        have B2 := hide (b2'.alloc b2'.size (.cells #[.slice a0 m0 c0, .slice a1 m1 c1, .int .i64 (burnI d.fuse), .bool false] 35))
        have T2 := hide (show TwoRows w1.heap.size (w2.alloc (.cells #[.slice a0 m0 c0, .slice a1 m1 c1, .int .i64 (burnI d.fuse), .bool false] 35)) _ _ _ _ from ⟨(unhide TT).1.up ((Below.refl _ _).alloc (Nat.le_refl _) _), (unhide TT).2.1.up ((Below.refl _ _).alloc (Nat.le_refl _) _), (unhide TT).2.2⟩)
        have HZ2 := hide (show w1.heap.size ≤ (w2.alloc (.cells #[.slice a0 m0 c0, .slice a1 m1 c1, .int .i64 (burnI d.fuse), .bool false] 35)).heap.size by have := b2.size; simp; omega)
        have HZ3 := hide b2.size
        clear b2 b2' x0 x1 x2 x3 f0 f1 f2 f3 X1 Y1 TT
        obtain ⟨⟨o0, o1, o2, o3⟩, q0, q1, q2, q3⟩ := (unhide OB).four
        obtain ⟨⟨y0, y1, y2, y3⟩, j0, j1, j2, j3⟩ := (unhide Y2).four
        go_wp2_with fail
        have OW := hide (unhide OB)
        clear OB o0 o1 o2 o3 q0 q1 q2 q3 y0 y1 y2 y3 j0 j1 j2 j3
        generalize w2.alloc (.cells #[.slice a0 m0 c0, .slice a1 m1 c1, .int .i64 (burnI d.fuse), .bool false] 35) = W2 at *
        have BD := hide (show Below W2.heap.size W2 W2.drew from (Below.refl _ _).drew)
        have KK := hide (show ∀ X, Below W2.heap.size W2 X → (fun X : World => X.cell? ⟨w2.heap.size, 0, none⟩ = some (.slice a0 m0 c0) ∧ X.cell? ⟨w2.heap.size, 1, none⟩ = some (.slice a1 m1 c1) ∧ X.cell? ⟨w2.heap.size, 2, none⟩ = some (.int .i64 (burnI d.fuse))) X ∧ BoxF X (w.heap.size + 1) [.slice none 0 0, .slice none 0 0, .int .i64 0, .bool false] from fun X b => ⟨⟨((unhide OW).up b).four.1.1, ((unhide OW).up b).four.1.2.1, ((unhide OW).up b).four.1.2.2.1⟩, (unhide Y2).up b⟩)
        have KS := hide (show ∀ (X : World) {i j : Nat} {v u : Value}, X.cell? ⟨w2.heap.size, j, none⟩ = some u → (X.setCell ⟨w.heap.size + 1, i, none⟩ v).cell? ⟨w2.heap.size, j, none⟩ = some u from fun X i j v u hX => (World.cell?_setCell_other _ _ _ _ (fun e => by have h1 := congrArg Addr.block e; have h2 := unhide HZ1; have h3 := unhide HZ3; simp at h1; omega)).trans hX)
        have HL2 := hide (fun W (b : Below W2.heap.size W2 W) => l6Bytes_any W (.slice a0 m0 c0) (.slice a1 m1 c1) d.safe d.soft ((unhide T2).1.rd.up b) ((unhide T2).2.1.rd.up b) (by omega))
        have hS := (unhide KK _ (unhide BD)).1
        refine wp_region_held_drew (S := fun X : World => X.cell? ⟨w2.heap.size, 0, none⟩ = some (.slice a0 m0 c0) ∧ X.cell? ⟨w2.heap.size, 1, none⟩ = some (.slice a1 m1 c1) ∧ X.cell? ⟨w2.heap.size, 2, none⟩ = some (.int .i64 (burnI d.fuse))) (by kernel_rfl) hS ?_
        intro hS
        refine wpAnyH_take (i := 0) (v := .pointer (some ⟨w2.heap.size, 0, none⟩)) rfl (by kernel_rfl) (by kernel_rfl) (by kernel_rfl) (fun _ _ _ h => h) (Or.inl ⟨by rfl, ?_⟩) hS ?_
        · intro X hX
          obtain ⟨hX0, hX1, hX2⟩ := hX
          clear hS
          go_simp
          try with_reducible rfl
        try simp [Act.put]
        refine wpAnyH_take (i := 1) (v := .slice a0 m0 c0) rfl (by kernel_rfl) (by kernel_rfl) (by kernel_rfl) (fun _ _ _ h => h) (Or.inl ⟨by rfl, ?_⟩) hS ?_
        · intro X hX
          obtain ⟨hX0, hX1, hX2⟩ := hX
          clear hS
          go_simp
          try with_reducible rfl
        try simp [Act.put]
        refine wpAnyH_take (i := 2) (v := .pointer (some ⟨w2.heap.size, 1, none⟩)) rfl (by kernel_rfl) (by kernel_rfl) (by kernel_rfl) (fun _ _ _ h => h) (Or.inl ⟨by rfl, ?_⟩) hS ?_
        · intro X hX
          obtain ⟨hX0, hX1, hX2⟩ := hX
          clear hS
          go_simp
          try with_reducible rfl
        try simp [Act.put]
        refine wpAnyH_take (i := 3) (v := .slice a1 m1 c1) rfl (by kernel_rfl) (by kernel_rfl) (by kernel_rfl) (fun _ _ _ h => h) (Or.inl ⟨by rfl, ?_⟩) hS ?_
        · intro X hX
          obtain ⟨hX0, hX1, hX2⟩ := hX
          clear hS
          go_simp
          try with_reducible rfl
        try simp [Act.put]
        refine wpAnyH_take (i := 5) (v := .pointer (some ⟨w2.heap.size, 2, none⟩)) rfl (by kernel_rfl) (by kernel_rfl) (by kernel_rfl) (fun _ _ _ h => h) (Or.inl ⟨by rfl, ?_⟩) hS ?_
        · intro X hX
          obtain ⟨hX0, hX1, hX2⟩ := hX
          clear hS
          go_simp
          try with_reducible rfl
        try simp [Act.put]
        refine wpAnyH_take (i := 6) (v := .int .i64 (burnI d.fuse)) rfl (by kernel_rfl) (by kernel_rfl) (by kernel_rfl) (fun _ _ _ h => h) (Or.inl ⟨by rfl, ?_⟩) hS ?_
        · intro X hX
          obtain ⟨hX0, hX1, hX2⟩ := hX
          clear hS
          go_simp
          try with_reducible rfl
        try simp [Act.put]
        refine wpAnyH_ready (rs := [4]) (by kernel_rfl) (by simp) ?_
        refine AllReadyH.cons rfl (fun K hK => ?_) AllReadyH.nil
        go_simp
        go_wp2_with (go_at_call 56; refine (unhide HL2 _ (unhide BD)).mono ?_; rintro e w4 ⟨a4, m4, c4, rfl, hm4, r4, b4⟩; have B34 := hide ((unhide BD).trans (b4.mono (unhide BD).size)); have R4 := hide r4; clear r4 b4)
        refine hK.out _ _ (unhide KK _ (unhide B34)).1 ?_
        clear hK K
        intro hS
        try simp [Act.put]
        have Y4 := hide (unhide KK _ (unhide B34)).2
        obtain ⟨⟨y0, y1, y2, y3⟩, j0, j1, j2, j3⟩ := (unhide Y4).four
        refine wpAnyH_ready (rs := [7]) (by kernel_rfl) (by simp) ?_
        refine AllReadyH.cons rfl (fun K hK => ?_) AllReadyH.nil
        go_simp
        refine hK.out _ _ hS ?_
        clear hK K
        intro hS
        try simp [Act.put]
        refine wpAnyH_ready (rs := [8]) (by kernel_rfl) (by simp) ?_
        refine AllReadyH.cons rfl (fun K hK => ?_) AllReadyH.nil
        go_simp
        refine hK.out _ _ ⟨unhide KS _ (unhide KS _ (unhide KS _ (unhide KS _ hS.1))), unhide KS _ (unhide KS _ (unhide KS _ (unhide KS _ hS.2.1))), unhide KS _ (unhide KS _ (unhide KS _ (unhide KS _ hS.2.2)))⟩ ?_
        clear hK K
        intro hS
        try simp [Act.put]
        refine wpAnyH_ready (rs := [9]) (by kernel_rfl) (by simp) ?_
        refine AllReadyH.cons rfl (fun K hK => ?_) AllReadyH.nil
        go_simp
        refine hK.out _ _ hS ?_
        clear hK K
        intro hS
        try simp [Act.put]
        refine wpAnyH_done (by kernel_rfl) ?_ _
        go_wp2_with fail
        refine bodyPost_ret (v := .tuple #[.agg #[.slice a4 m4 c4, .slice none 0 0, .int .i64 (burnI d.fuse), .bool false], .int .i64 0]) (by simp [results, Try.results41, go_sem, y0, y1, y2, y3]) rfl ?_
        have key : ∀ W, Turn [w.heap.size + 1] w4 W → RetDiskI ⟨d.safe ++ d.soft, [], burnI d.fuse, false⟩ 0 w (.returned (.tuple #[.agg #[.slice a4 m4 c4, .slice none 0 0, .int .i64 (burnI d.fuse), .bool false], .int .i64 0])) W := fun W ht => by
          have R4' : ByRow W2.heap.size w4 (.slice a4 m4 c4) (d.safe ++ d.soft) := unhide R4
          have hy := (unhide Y2).1.1
          have T4 : TwoRows W2.heap.size w4 (.slice a4 m4 c4) (.slice none 0 0) (d.safe ++ d.soft) [] := ⟨R4', ByRow.nil _ _, by simp [Value.ownBlock]⟩
          have b4 := (unhide B2).trans ((unhide B34).mono (unhide B2).size)
          exact retDiskI_two (res := ⟨d.safe ++ d.soft, [], burnI d.fuse, false⟩) (b := 0) (T4.turn ht (fun k hk => by simp at hk; omega)) (unhide B2).size (b4.trans (ht.below b4.size (fun k hk => by simp at hk; omega)))
        exact key _ (((((Turn.refl _ _).setCell (g := w.heap.size + 1) (by simp) _ _).setCell (g := w.heap.size + 1) (by simp) _ _).setCell (g := w.heap.size + 1) (by simp) _ _).setCell (g := w.heap.size + 1) (by simp) _ _)
    · rw [show cutOut d (d.safe.length + d.soft.length) = d by simp [cutOut, hdn], show cutCode d = 2 by simp [cutCode, hdn]]
      rw [hdn] at X0 Y0 HCP HK
      go_enter Try.func41, Try.ntmps41
      go_wp2_with fail
      refine (unhide HK _ (by go_grown)).mono ?_
      rintro e w1 ⟨rfl, b1⟩
      have X1 := hide ((unhide X0).up b1)
      have Y1 := hide (show BoxF w1 (w.heap.size + 1) [.slice none 0 0, .slice none 0 0, .int .i64 0, .bool false] by simpa using (unhide Y0).up b1)
      have B1 := hide (show Below w.heap.size w w1 from Below.trans (by go_grown) (b1.mono (by simp; omega)))
      clear b1 X0 Y0
      obtain ⟨⟨x0, x1, x2, x3⟩, f0, f1, f2, f3⟩ := (unhide X1).four
      go_wp2_with fail
      refine (unhide HCP _ (unhide B1)).mono ?_
      rintro e w2 ⟨v0, v1, rfl, T2, b2⟩
      obtain ⟨a0, c0, rfl⟩ := T2.1.slice
      obtain ⟨a1, c1, rfl⟩ := T2.2.1.slice
      have HZ1 := hide (unhide Y1).1.1
      have TT := hide T2
      have Y2 := hide ((unhide Y1).up b2)
      have B2 := hide ((unhide B1).trans (b2.mono (unhide B1).size))
      clear b2 T2 x0 x1 x2 x3 f0 f1 f2 f3 X1 Y1
      obtain ⟨⟨y0, y1, y2, y3⟩, j0, j1, j2, j3⟩ := (unhide Y2).four
      go_wp2_with fail
      refine bodyPost_ret (v := .tuple #[.agg #[.slice a0 d.safe.length c0, .slice a1 d.soft.length c1, .int .i64 d.fuse, .bool true], .int .i64 2]) (by simp [results, Try.results41, go_sem, y0, y1, y2, y3]) rfl ?_
      have key : ∀ W, Turn [w.heap.size + 1] w2 W → RetDiskI d 2 w (.returned (.tuple #[.agg #[.slice a0 d.safe.length c0, .slice a1 d.soft.length c1, .int .i64 d.fuse, .bool true], .int .i64 2])) W := fun W ht =>
        by have := retDiskI_two (res := d) (b := 2) (TwoRows.turn (unhide TT) ht (fun k hk => by have := unhide HZ1; simp at hk; omega)) (unhide B1).size ((unhide B2).trans (ht.below (unhide B2).size (fun k hk => by simp at hk; omega))); rw [hdn] at this; exact this
      exact key _ (((((Turn.refl _ _).setCell (g := w.heap.size + 1) (by simp) _ _).setCell (g := w.heap.size + 1) (by simp) _ _).setCell (g := w.heap.size + 1) (by simp) _ _).setCell (g := w.heap.size + 1) (by simp) _ _)
end Go.Proofs.Ytddmomcanakoiaa
