/-
  A mark with a text of its own.
-/
import Derived.Test.YtcjomdbklgjojaaShelfC
import Derived.Test.YtcjomdbklgjojaaMarkRowsOwn
import Derived.Test.YtcjomdbklgjojaaLater
import Derived.Test.YtcjomdbklgjojaaBoxes
import Derived.Handy
import Derived.Deep.RegionHeld3
set_option linter.unusedVariables false
namespace Go.Proofs.Ytcjomdbklgjojaa
open Go.RowKit Go.Maps Go.Deep

theorem clone_any' (s : ByteArray) (w : World) (hs : s.size ≤ 1048576) : Calls Try.prog 35 #[.string s] w fun e w' => e = .returned (.string s) ∧ Below w.heap.size w w' := by
  have HK := hide (Try.stringslite_Clone s w (by omega))
  clear hs
  go_enter Try.func35, Try.ntmps35
  go_wp2_with fail
  refine (unhide HK).mono ?_
  rintro e w1 ⟨rfl, b1⟩
  have B1 := hide b1
  clear b1
  go_wp2_with fail
  go_ret
  exact ⟨rfl, unhide B1⟩
set_option maxHeartbeats 1600000 in
theorem markOwn_any (z0 : ByteArray) (z1 : Int) (w : World) (hs : z0.size ≤ 1048576) :
    Calls Try.prog 37 #[.agg #[.string z0, .int .i64 z1]] w fun e w' => e = .returned (.agg #[.string z0, .int .i64 z1]) ∧ Below w.heap.size w w' := by
  have HK := hide (fun W => clone_any' z0 W hs)
  have X0 := hide ((boxF_new w [.string z0, .int .i64 z1] 49).up ((Below.refl _ _).alloc (Nat.le_refl _) (.cells #[.string ⟨#[]⟩, .int .i64 0] 49)))
  have Y0 := hide (boxF_new (w.alloc (.cells #[.string z0, .int .i64 z1] 49)) [.string ⟨#[]⟩, .int .i64 0] 49)
  have B0 := hide (((Below.refl w.heap.size w).alloc (Nat.le_refl _) (.cells #[.string z0, .int .i64 z1] 49)).alloc (by simp) (.cells #[.string ⟨#[]⟩, .int .i64 0] 49))
  rw [World.size_alloc] at Y0
  clear hs
  go_enter Try.func37, Try.ntmps37
  go_wp2_with fail
  replace X0 : Hid (BoxF ((w.alloc (.cells #[.string z0, .int .i64 z1] 49)).alloc (.cells #[.string ⟨#[]⟩, .int .i64 0] 49)) w.heap.size [.string z0, .int .i64 z1]) := X0
  replace Y0 : Hid (BoxF ((w.alloc (.cells #[.string z0, .int .i64 z1] 49)).alloc (.cells #[.string ⟨#[]⟩, .int .i64 0] 49)) (w.heap.size + 1) [.string ⟨#[]⟩, .int .i64 0]) := Y0
  generalize (w.alloc (.cells #[.string z0, .int .i64 z1] 49)).alloc (.cells #[.string ⟨#[]⟩, .int .i64 0] 49) = W2 at *
  have BD := hide (show Below W2.heap.size W2 W2.drew from (Below.refl _ _).drew)
  have KK := hide (show ∀ X, Below W2.heap.size W2 X → (fun X : World => X.cell? ⟨w.heap.size, 0, none⟩ = some (.string z0) ∧ X.cell? ⟨w.heap.size, 1, none⟩ = some (.int .i64 z1)) X ∧ BoxF X (w.heap.size + 1) [.string ⟨#[]⟩, .int .i64 0] from fun X b => ⟨⟨((unhide X0).up b).1.2 0 _ rfl, ((unhide X0).up b).1.2 1 _ rfl⟩, (unhide Y0).up b⟩)
  have KS := hide (show ∀ (X : World) {i j : Nat} {v u : Value}, X.cell? ⟨w.heap.size, j, none⟩ = some u → (X.setCell ⟨w.heap.size + 1, i, none⟩ v).cell? ⟨w.heap.size, j, none⟩ = some u from fun X i j v u hX => (World.cell?_setCell_other _ _ _ _ (fun e => by have h1 := congrArg Addr.block e; simp at h1)).trans hX)
  have hS := (unhide KK _ (unhide BD)).1
  refine wp_region_held_drew (S := fun X : World => X.cell? ⟨w.heap.size, 0, none⟩ = some (.string z0) ∧ X.cell? ⟨w.heap.size, 1, none⟩ = some (.int .i64 z1)) (by kernel_rfl) hS ?_
  intro hS
  refine wpAnyH_take (i := 0) (v := .pointer (some ⟨w.heap.size, 0, none⟩)) rfl (by kernel_rfl) (by kernel_rfl) (by kernel_rfl) (fun _ _ _ h => h) (Or.inl ⟨by rfl, ?_⟩) hS ?_
  · intro X hX
    obtain ⟨hX0, hX1⟩ := hX
    clear hS
    go_simp
    try with_reducible rfl
  try simp [Act.put]
  refine wpAnyH_take (i := 1) (v := .string z0) rfl (by kernel_rfl) (by kernel_rfl) (by kernel_rfl) (fun _ _ _ h => h) (Or.inl ⟨by rfl, ?_⟩) hS ?_
  · intro X hX
    obtain ⟨hX0, hX1⟩ := hX
    clear hS
    go_simp
    try with_reducible rfl
  try simp [Act.put]
  refine wpAnyH_take (i := 3) (v := .pointer (some ⟨w.heap.size, 1, none⟩)) rfl (by kernel_rfl) (by kernel_rfl) (by kernel_rfl) (fun _ _ _ h => h) (Or.inl ⟨by rfl, ?_⟩) hS ?_
  · intro X hX
    obtain ⟨hX0, hX1⟩ := hX
    clear hS
    go_simp
    try with_reducible rfl
  try simp [Act.put]
  refine wpAnyH_take (i := 4) (v := .int .i64 z1) rfl (by kernel_rfl) (by kernel_rfl) (by kernel_rfl) (fun _ _ _ h => h) (Or.inl ⟨by rfl, ?_⟩) hS ?_
  · intro X hX
    obtain ⟨hX0, hX1⟩ := hX
    clear hS
    go_simp
    try with_reducible rfl
  try simp [Act.put]
  refine wpAnyH_ready (rs := [2]) (by kernel_rfl) (by simp) ?_
  refine AllReadyH.cons rfl (fun K hK => ?_) AllReadyH.nil
  go_simp
  go_wp2_with (go_at_call 35; refine (unhide HK _).mono ?_; rintro e w4 ⟨rfl, b4⟩; have B34 := hide ((unhide BD).trans (b4.mono (unhide BD).size)); clear b4)
  refine hK.out _ _ (unhide KK _ (unhide B34)).1 ?_
  clear hK K
  intro hS
  try simp [Act.put]
  have Y4 := hide (unhide KK _ (unhide B34)).2
  have y0 := (unhide Y4).1.2 0 _ rfl
  have y1 := (unhide Y4).1.2 1 _ rfl
  have j0 := (unhide Y4).2 0 (by simp)
  have j1 := (unhide Y4).2 1 (by simp)
  refine wpAnyH_ready (rs := [5]) (by kernel_rfl) (by simp) ?_
  refine AllReadyH.cons rfl (fun K hK => ?_) AllReadyH.nil
  go_simp
  refine hK.out _ _ hS ?_
  clear hK K
  intro hS
  try simp [Act.put]
  refine wpAnyH_ready (rs := [6]) (by kernel_rfl) (by simp) ?_
  refine AllReadyH.cons rfl (fun K hK => ?_) AllReadyH.nil
  go_simp
  refine hK.out _ _ ⟨unhide KS _ (unhide KS _ hS.1), unhide KS _ (unhide KS _ hS.2)⟩ ?_
  clear hK K
  intro hS
  try simp [Act.put]
  refine wpAnyH_done (by kernel_rfl) ?_ _
  go_wp2_with fail
  refine bodyPost_ret (v := .agg #[.string z0, .int .i64 z1]) (by simp [results, Try.results37, go_sem, y0, y1]) rfl ?_
  have b4 := (unhide B0).trans ((unhide B34).mono (unhide B0).size)
  exact ⟨rfl, (b4.setCell (p := ⟨w.heap.size + 1, 0, none⟩) (by simp) _).setCell (p := ⟨w.heap.size + 1, 1, none⟩) (by simp) _⟩
end Go.Proofs.Ytcjomdbklgjojaa
