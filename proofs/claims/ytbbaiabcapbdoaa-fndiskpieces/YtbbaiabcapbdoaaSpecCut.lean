/-
  DiskCut of the specification.
-/
import Derived.Test.YtbbaiabcapbdoaaCutFace
set_option linter.unusedVariables false
namespace Go.Proofs.Ytbbaiabcapbdoaa
open Go.RowKit Go.Maps Go.Deep

/-- a disk of one's own is handed back -/
def RetDiskV (res : DiskV) (w : World) (e : Ending) (w' : World) : Prop := ∃ v0 v1, e = .returned (.agg #[v0, v1, .int .i64 res.fuse, .bool res.down]) ∧ TwoRows w.heap.size w' v0 v1 res.safe res.soft ∧ Below w.heap.size w w'
set_option maxHeartbeats 6400000 in
theorem l6Copy_any (d : DiskV) (v : Value) (w : World) (hs : SmallDisk d) (h : DiskRd w v d) : Calls Try.prog 23 #[v] w fun e w' => RetDiskV d w e w' := by
  obtain ⟨v0, v1, rfl, h0, h1⟩ := h
  obtain ⟨xs, ys, fs, dn⟩ := d
  have H0 := hide (fun W (b : Below w.heap.size w W) => l6Bytes_any W _ (.slice none 0 0) xs [] (h0.up b) (ByRd.nil _ _ _) (by have := hs.1; simp only at this; simp; omega))
  have H1 := hide (fun W (b : Below w.heap.size w W) => l6Bytes_any W _ (.slice none 0 0) ys [] (h1.up b) (ByRd.nil _ _ _) (by have := hs.2; simp only at this; simp; omega))
  simp only [List.append_nil] at H0 H1
  obtain ⟨p0, n0, p2, rfl⟩ := h0.form
  obtain ⟨p3, n1, p5, rfl⟩ := h1.form
  clear h0 h1 hs
  simp only at *
  have X0 := hide ((boxF_new4 w (.slice p0 n0 p2) (.slice p3 n1 p5) (.int .i64 fs) (.bool dn) 24).up ((Below.refl _ _).alloc (Nat.le_refl _) (.cells #[.slice none 0 0, .slice none 0 0, .int .i64 0, .bool false] 24)))
  have Y0 := hide (boxF_new4 (w.alloc (.cells #[.slice p0 n0 p2, .slice p3 n1 p5, .int .i64 fs, .bool dn] 24)) (.slice none 0 0) (.slice none 0 0) (.int .i64 0) (.bool false) 24)
  have B0 := hide (show Below w.heap.size w ((w.alloc (.cells #[.slice p0 n0 p2, .slice p3 n1 p5, .int .i64 fs, .bool dn] 24)).alloc (.cells #[.slice none 0 0, .slice none 0 0, .int .i64 0, .bool false] 24)) by go_grown)
  have Z0 := hide (show ((w.alloc (.cells #[.slice p0 n0 p2, .slice p3 n1 p5, .int .i64 fs, .bool dn] 24)).alloc (.cells #[.slice none 0 0, .slice none 0 0, .int .i64 0, .bool false] 24)).heap.size = w.heap.size + 2 by simp)
  have hsz : (w.alloc (.cells #[.slice p0 n0 p2, .slice p3 n1 p5, .int .i64 fs, .bool dn] 24)).heap.size = w.heap.size + 1 := by simp
  rw [hsz] at Y0
  clear hsz
  go_enter Try.func23, Try.ntmps23
  go_wp2_with fail
  generalize (w.alloc (.cells #[.slice p0 n0 p2, .slice p3 n1 p5, .int .i64 fs, .bool dn] 24)).alloc (.cells #[.slice none 0 0, .slice none 0 0, .int .i64 0, .bool false] 24) = W0 at *
  have HGZ := hide (show ∀ X, Below W0.heap.size W0 X → (X.cell? ⟨w.heap.size, 0, none⟩ = some (.slice p0 n0 p2) ∧ X.cell? ⟨w.heap.size, 1, none⟩ = some (.slice p3 n1 p5) ∧ X.cell? ⟨w.heap.size, 2, none⟩ = some (.int .i64 fs) ∧ X.cell? ⟨w.heap.size, 3, none⟩ = some (.bool dn)) ∧ BoxF X (w.heap.size + 1) [.slice none 0 0, .slice none 0 0, .int .i64 0, .bool false] from fun X b => by
    obtain ⟨⟨x0, x1, x2, x3⟩, _⟩ := ((unhide X0).up b).four
    exact ⟨⟨x0, x1, x2, x3⟩, (unhide Y0).up b⟩)
  have HL0 := hide (fun W (b : Below W0.heap.size W0 W) => unhide H0 W ((unhide B0).trans (b.mono (unhide B0).size)))
  have HL1 := hide (fun W (b : Below W0.heap.size W0 W) => unhide H1 W ((unhide B0).trans (b.mono (unhide B0).size)))
  have BD := hide (show Below W0.heap.size W0 W0.drew from (Below.refl _ _).drew)
  have KS := hide (show ∀ (X : World) {i : Nat} {v : Value}, (X.cell? ⟨w.heap.size, 0, none⟩ = some (.slice p0 n0 p2) ∧ X.cell? ⟨w.heap.size, 1, none⟩ = some (.slice p3 n1 p5) ∧ X.cell? ⟨w.heap.size, 2, none⟩ = some (.int .i64 fs) ∧ X.cell? ⟨w.heap.size, 3, none⟩ = some (.bool dn)) → ((X.setCell ⟨w.heap.size + 1, i, none⟩ v).cell? ⟨w.heap.size, 0, none⟩ = some (.slice p0 n0 p2) ∧ (X.setCell ⟨w.heap.size + 1, i, none⟩ v).cell? ⟨w.heap.size, 1, none⟩ = some (.slice p3 n1 p5) ∧ (X.setCell ⟨w.heap.size + 1, i, none⟩ v).cell? ⟨w.heap.size, 2, none⟩ = some (.int .i64 fs) ∧ (X.setCell ⟨w.heap.size + 1, i, none⟩ v).cell? ⟨w.heap.size, 3, none⟩ = some (.bool dn)) from fun X i v hX => by
    have ne : ∀ o, (⟨w.heap.size + 1, i, none⟩ : Addr) ≠ ⟨w.heap.size, o, none⟩ := fun o e => by have := congrArg Addr.block e; simp at this
    exact ⟨(World.cell?_setCell_other _ _ _ _ (ne _)).trans hX.1, (World.cell?_setCell_other _ _ _ _ (ne _)).trans hX.2.1, (World.cell?_setCell_other _ _ _ _ (ne _)).trans hX.2.2.1, (World.cell?_setCell_other _ _ _ _ (ne _)).trans hX.2.2.2⟩)
  have hS := (unhide HGZ W0.drew (unhide BD)).1
  clear H0 H1
  refine wp_region_held_drew (S := fun X : World => X.cell? ⟨w.heap.size, 0, none⟩ = some (.slice p0 n0 p2) ∧ X.cell? ⟨w.heap.size, 1, none⟩ = some (.slice p3 n1 p5) ∧ X.cell? ⟨w.heap.size, 2, none⟩ = some (.int .i64 fs) ∧ X.cell? ⟨w.heap.size, 3, none⟩ = some (.bool dn)) (by kernel_rfl) hS ?_
  intro hS
  --COPY
  refine wpAnyH_take (i := 0) (v := .pointer (some ⟨w.heap.size, 0, none⟩)) rfl (by kernel_rfl) (by kernel_rfl) (by kernel_rfl) (fun _ _ _ h => h) (Or.inl ⟨by rfl, ?_⟩) hS ?_
  · intro X hX
    obtain ⟨h1, h2, h3, h4⟩ := hX
    clear hS
    go_simp
    try with_reducible rfl
  try simp [Act.put]
  refine wpAnyH_take (i := 1) (v := .slice p0 n0 p2) rfl (by kernel_rfl) (by kernel_rfl) (by kernel_rfl) (fun _ _ _ h => h) (Or.inl ⟨by rfl, ?_⟩) hS ?_
  · intro X hX
    obtain ⟨h1, h2, h3, h4⟩ := hX
    clear hS
    go_simp
    try with_reducible rfl
  try simp [Act.put]
  refine wpAnyH_take (i := 3) (v := .pointer (some ⟨w.heap.size, 1, none⟩)) rfl (by kernel_rfl) (by kernel_rfl) (by kernel_rfl) (fun _ _ _ h => h) (Or.inl ⟨by rfl, ?_⟩) hS ?_
  · intro X hX
    obtain ⟨h1, h2, h3, h4⟩ := hX
    clear hS
    go_simp
    try with_reducible rfl
  try simp [Act.put]
  refine wpAnyH_take (i := 4) (v := .slice p3 n1 p5) rfl (by kernel_rfl) (by kernel_rfl) (by kernel_rfl) (fun _ _ _ h => h) (Or.inl ⟨by rfl, ?_⟩) hS ?_
  · intro X hX
    obtain ⟨h1, h2, h3, h4⟩ := hX
    clear hS
    go_simp
    try with_reducible rfl
  try simp [Act.put]
  refine wpAnyH_take (i := 6) (v := .pointer (some ⟨w.heap.size, 2, none⟩)) rfl (by kernel_rfl) (by kernel_rfl) (by kernel_rfl) (fun _ _ _ h => h) (Or.inl ⟨by rfl, ?_⟩) hS ?_
  · intro X hX
    obtain ⟨h1, h2, h3, h4⟩ := hX
    clear hS
    go_simp
    try with_reducible rfl
  try simp [Act.put]
  refine wpAnyH_take (i := 7) (v := .int .i64 fs) rfl (by kernel_rfl) (by kernel_rfl) (by kernel_rfl) (fun _ _ _ h => h) (Or.inl ⟨by rfl, ?_⟩) hS ?_
  · intro X hX
    obtain ⟨h1, h2, h3, h4⟩ := hX
    clear hS
    go_simp
    try with_reducible rfl
  try simp [Act.put]
  refine wpAnyH_take (i := 8) (v := .pointer (some ⟨w.heap.size, 3, none⟩)) rfl (by kernel_rfl) (by kernel_rfl) (by kernel_rfl) (fun _ _ _ h => h) (Or.inl ⟨by rfl, ?_⟩) hS ?_
  · intro X hX
    obtain ⟨h1, h2, h3, h4⟩ := hX
    clear hS
    go_simp
    try with_reducible rfl
  try simp [Act.put]
  refine wpAnyH_take (i := 9) (v := .bool dn) rfl (by kernel_rfl) (by kernel_rfl) (by kernel_rfl) (fun _ _ _ h => h) (Or.inl ⟨by rfl, ?_⟩) hS ?_
  · intro X hX
    obtain ⟨h1, h2, h3, h4⟩ := hX
    clear hS
    go_simp
    try with_reducible rfl
  try simp [Act.put]
  refine wpAnyH_ready (rs := [2]) (by kernel_rfl) (by simp) ?_
  refine AllReadyH.cons rfl (fun K hK => ?_) AllReadyH.nil
  go_simp
  go_wp2_with (go_at_call 26; refine (unhide HL0 _ (unhide BD)).mono ?_; rintro e w1 ⟨a1, m1, c1, rfl, hm1, r1, b1⟩; have B1 := hide ((unhide BD).trans (b1.mono (unhide BD).size)); have R1 := hide r1; have HZ1 := hide b1.size; clear r1 b1)
  refine hK.out _ _ (unhide HGZ w1 (unhide B1)).1 ?_
  clear hK K
  intro hS
  try simp [Act.put]
  refine wpAnyH_ready (rs := [5]) (by kernel_rfl) (by simp) ?_
  refine AllReadyH.cons rfl (fun K hK => ?_) AllReadyH.nil
  go_simp
  go_wp2_with (go_at_call 26; refine (unhide HL1 _ (unhide B1)).mono ?_; rintro e w2 ⟨a2, m2, c2, rfl, hm2, r2, b2⟩; have B2 := hide ((unhide B1).trans (b2.mono (unhide B1).size)); have R2 := hide r2; have R12 := hide ((unhide R1).up b2); clear r2 b2)
  refine hK.out _ _ (unhide HGZ w2 (unhide B2)).1 ?_
  clear hK K
  intro hS
  try simp [Act.put]
  have Y2 := hide (unhide HGZ w2 (unhide B2)).2
  obtain ⟨⟨y0, y1, y2, y3⟩, j0, j1, j2, j3⟩ := (unhide Y2).four
  refine wpAnyH_ready (rs := [10]) (by kernel_rfl) (by simp) ?_
  refine AllReadyH.cons rfl (fun K hK => ?_) AllReadyH.nil
  go_simp
  refine hK.out _ _ hS ?_
  clear hK K
  intro hS
  try simp [Act.put]
  refine wpAnyH_ready (rs := [11]) (by kernel_rfl) (by simp) ?_
  refine AllReadyH.cons rfl (fun K hK => ?_) AllReadyH.nil
  go_simp
  refine hK.out _ _ (unhide KS _ (unhide KS _ (unhide KS _ (unhide KS _ hS)))) ?_
  clear hK K
  intro hS
  try simp [Act.put]
  --YPOC
  refine wpAnyH_done (by kernel_rfl) ?_ _
  go_wp2_with fail
  refine bodyPost_ret (v := .agg #[.slice a1 m1 c1, .slice a2 m2 c2, .int .i64 fs, .bool dn]) (by simp [results, Try.results23, go_sem, y0, y1, y2, y3]) rfl ?_
  have key : ∀ W, Turn [w.heap.size + 1] w2 W → RetDiskV ⟨xs, ys, fs, dn⟩ w (.returned (.agg #[.slice a1 m1 c1, .slice a2 m2 c2, .int .i64 fs, .bool dn])) W := fun W ht => by
    have z0 := unhide Z0
    have z1 : W0.heap.size ≤ w1.heap.size := unhide HZ1
    have g1 : ∀ k, (Value.slice a1 m1 c1).ownBlock = some k → W0.heap.size ≤ k := (unhide R12).ge
    have l1 := (unhide R1).lt
    have g2 := (unhide R2).ge
    have b2 := (unhide B0).trans ((unhide B2).mono (by omega))
    refine ⟨_, _, rfl, ⟨((unhide R12).turn ht (fun k hk hm => by have := g1 k hk; simp at hm; omega)).mono (show w.heap.size ≤ W0.heap.size by omega), ((unhide R2).turn ht (fun k hk hm => by have := g2 k hk; simp at hm; omega)).mono (by omega), fun k hk hm => ?_⟩, b2.trans (ht.below b2.size (fun k hk => by simp at hk; omega))⟩
    have := l1 k hk
    have := g2 k hm
    omega
  exact key _ (((((Turn.refl _ _).setCell (g := w.heap.size + 1) (by simp) _ _).setCell (g := w.heap.size + 1) (by simp) _ _).setCell (g := w.heap.size + 1) (by simp) _ _).setCell (g := w.heap.size + 1) (by simp) _ _)
end Go.Proofs.Ytbbaiabcapbdoaa
