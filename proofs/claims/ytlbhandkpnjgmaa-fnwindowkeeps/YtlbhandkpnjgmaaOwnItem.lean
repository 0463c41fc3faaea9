/-
  An item with memory of its own.
-/
import Derived.Test.YtlbhandkpnjgmaaMerged13
import Derived.Test.YtlbhandkpnjgmaaMerged23
import Derived.Test.YtlbhandkpnjgmaaMerged24
set_option linter.unusedVariables false
namespace Go.Proofs.Ytlbhandkpnjgmaa
open Go.RowKit Go.Maps Go.Deep

set_option maxHeartbeats 3200000 in
theorem ownStamp_any (ns : List MarkV) (v : Value) (w : World) (hs : SmallMarkS ns) (hl : ns.length ≤ 1000000) (h : MarkSRd w v ns) :
    Calls Try.prog 37 #[v] w fun e w' => ∃ u, e = .returned u ∧ Hid (MkRow w.heap.size w' u ns) ∧ Below w.heap.size w w' := by
  obtain ⟨a, cap, rfl, h⟩ := h
  have HA := hide h
  have HSZ := hide (show ∀ x ∈ ns, x.a0.size ≤ 1048576 from fun x hx => hs.1.2 x hx)
  clear h hs
  go_enter Try.func37, Try.ntmps37
  go_wp2_with fail
  go_loopw [3, 8] (fun v i wr => ∃ (k : Nat), k ≤ ns.length ∧ i = .int .i64 k ∧ Hid (MkRow w.heap.size wr v (ns.take k)) ∧ Hid (Below w.heap.size w wr)) (fun _ i _ => ns.length - (intOf i).toNat)
  case atStart => exact ⟨0, Nat.zero_le _, rfl, MkRow.nil _ _, Below.refl _ _⟩
  case round =>
    obtain ⟨k, hk, rfl, HR, HBr⟩ := hrel
    have hlo : (ns.take k).length ≤ 1000000 := by simp; omega
    obtain ⟨av, cv, hv⟩ := (unhide HR).slice
    subst hv
    by_cases hlt : k < ns.length
    · rcases unhide HA with rfl | ⟨ba, oa, rfl, hba, hca⟩
      · simp at hlt
      have HT := hide (show ns.take (k + 1) = ns.take k ++ [ns[k]] from List.take_succ_eq_append_getElem hlt)
      obtain ⟨c0, c1⟩ := hca.below (unhide HBr) hba k hlt
      have hms := unhide HSZ _ (List.getElem_mem hlt)
      obtain ⟨m, hm⟩ : ∃ m, ns[k] = m := ⟨_, rfl⟩
      simp only [hm] at c0 c1 HT hms
      clear hca hm
      obtain ⟨m0, m1⟩ := m
      simp only at c0 c1 HT hms
      obtain ⟨bx, bb, zz⟩ := boxNew2 wr (.string m0) (.int .i64 m1) 76
      have HOWN := hide (fun X => markOwn_any m0 m1 X hms)
      clear hms
      generalize ns.take k = out at *
      obtain ⟨d0, d1⟩ := bx.two
      go_wp2_with fail
      generalize wr.alloc (.cells #[.string m0, .int .i64 m1] 76) = W1 at *
      have BW := hide ((unhide HBr).trans (bb.mono (unhide HBr).size))
      have RW := hide ((unhide HR).up bb)
      clear bx bb zz c0 c1
      refine (unhide HOWN _).mono ?_
      rintro e w3 ⟨rfl, b3⟩
      have B3 := hide ((unhide BW).trans (b3.mono (unhide BW).size))
      have R3 := hide ((unhide RW).up b3)
      clear b3 d0 d1
      have hz1 : w.heap.size ≤ (w3.alloc (.cells #[.string m0, .int .i64 m1] 76)).heap.size := by have := (unhide B3).size; simp; omega
      have RA1 := hide ((unhide R3).up ((Below.refl _ _).alloc (Nat.le_refl _) (.cells #[.string m0, .int .i64 m1] 76)))
      have BA1 := hide ((unhide B3).alloc (unhide B3).size (.cells #[.string m0, .int .i64 m1] 76))
      have ca1 : (w3.alloc (.cells #[.string m0, .int .i64 m1] 76)).cell? ⟨w3.heap.size, 0, none⟩ = some (.string m0) := World.cell?_alloc_at _ _ _ _ rfl
      have cb1 : (w3.alloc (.cells #[.string m0, .int .i64 m1] 76)).cell? ⟨w3.heap.size, 1, none⟩ = some (.int .i64 m1) := World.cell?_alloc_at _ _ _ _ rfl
      go_wp2_with (first
        | (at_builtin; have _g := RA1; refine wpList_markAppend rfl _ _ rfl w.heap.size (.slice av out.length cv) out ⟨m0, m1⟩ w3.heap.size rfl rfl (unhide RA1) ca1 cb1 (by omega) hz1 ?_; intro g1 n1 cp1 X1 hr1 hg1 hlie1; have RX1 := hide hr1; have BX1 := hide ((unhide BA1).grown hg1 (unhide BA1).size (fun q hq => (unhide RA1).ge q hq)); clear hr1 hg1 hlie1 RA1 BA1)
        | fail)
      clear ca1 cb1 hz1
      go_roundw
      case rel => exact ⟨k + 1, by omega, by go_num, by rw [unhide HT]; exact RX1, BX1⟩
      case measure => simp [intOf]; omega
    · obtain rfl : k = ns.length := by omega
      have HR2 := hide (show MkRow w.heap.size wr (.slice av (ns.take ns.length).length cv) ns by
        have h := unhide HR
        generalize Value.slice av (ns.take ns.length).length cv = V at *
        rw [List.take_length] at h
        exact h)
      go_wp2_with fail
      go_ret
      exact ⟨_, rfl, HR2, unhide HBr⟩
set_option maxHeartbeats 3200000 in
theorem ownItem_any (z0 : Int) (z1 : Value) (ms : List MarkV) (w : World) (hs : SmallMarkS ms) (hl : ms.length ≤ 1000000) (h : MarkSRd w z1 ms) :
    Calls Try.prog 25 #[.agg #[.int .i64 z0, z1]] w fun e w' => ∃ u, e = .returned (.agg #[.int .i64 z0, u]) ∧ Hid (MkRow w.heap.size w' u ms) ∧ Below w.heap.size w w' := by
  have HA := hide (fun W (b : Below w.heap.size w W) => ownStamp_any ms z1 W hs hl (h.up b))
  obtain ⟨a, n, c, rfl⟩ := h.form
  clear h hs hl
  have X0 := hide ((boxF_new w [.int .i64 z0, .slice a n c] 30).up ((Below.refl _ _).alloc (Nat.le_refl _) (.cells #[.int .i64 0, .slice none 0 0] 30)))
  have Y0 := hide (boxF_new (w.alloc (.cells #[.int .i64 z0, .slice a n c] 30)) [.int .i64 0, .slice none 0 0] 30)
  go_enter Try.func25, Try.ntmps25
  go_wp2_with fail
  have HZ0 := hide (show ((w.alloc (.cells #[.int .i64 z0, .slice a n c] 30)).alloc (.cells #[.int .i64 0, .slice none 0 0] 30)).drew.heap.size = w.heap.size + 1 + 1 by simp [World.drew])
  have B0 := hide (show Below w.heap.size w ((w.alloc (.cells #[.int .i64 z0, .slice a n c] 30)).alloc (.cells #[.int .i64 0, .slice none 0 0] 30)).drew from (show Below w.heap.size w ((w.alloc (.cells #[.int .i64 z0, .slice a n c] 30)).alloc (.cells #[.int .i64 0, .slice none 0 0] 30)) by go_grown).drew)
  have X1 := hide (show BoxF ((w.alloc (.cells #[.int .i64 z0, .slice a n c] 30)).alloc (.cells #[.int .i64 0, .slice none 0 0] 30)).drew w.heap.size [.int .i64 z0, .slice a n c] from unhide X0)
  have Y1 := hide (show BoxF ((w.alloc (.cells #[.int .i64 z0, .slice a n c] 30)).alloc (.cells #[.int .i64 0, .slice none 0 0] 30)).drew (w.heap.size + 1) [.int .i64 0, .slice none 0 0] from show BoxF ((w.alloc (.cells #[.int .i64 z0, .slice a n c] 30)).alloc (.cells #[.int .i64 0, .slice none 0 0] 30)) (w.heap.size + 1) [.int .i64 0, .slice none 0 0] by simpa using unhide Y0)
  clear X0 Y0
  have hS : ((w.alloc (.cells #[.int .i64 z0, .slice a n c] 30)).alloc (.cells #[.int .i64 0, .slice none 0 0] 30)).drew.cell? ⟨w.heap.size, 0, none⟩ = some (.int .i64 z0) ∧ ((w.alloc (.cells #[.int .i64 z0, .slice a n c] 30)).alloc (.cells #[.int .i64 0, .slice none 0 0] 30)).drew.cell? ⟨w.heap.size, 1, none⟩ = some (.slice a n c) := ⟨(unhide X1).1.2 0 _ rfl, (unhide X1).1.2 1 _ rfl⟩
  refine wp_region_held_drew (S := fun X : World => X.cell? ⟨w.heap.size, 0, none⟩ = some (.int .i64 z0) ∧ X.cell? ⟨w.heap.size, 1, none⟩ = some (.slice a n c)) (by kernel_rfl) hS ?_
  clear hS
  intro hS
  generalize ((w.alloc (.cells #[.int .i64 z0, .slice a n c] 30)).alloc (.cells #[.int .i64 0, .slice none 0 0] 30)).drew = W at *
  refine wpAnyH_take (i := 0) (v := .pointer (some ⟨w.heap.size, 0, none⟩)) rfl (by kernel_rfl) (by kernel_rfl) (by kernel_rfl) (fun _ _ _ h => h) (Or.inl ⟨by rfl, ?_⟩) hS ?_
  · intro X hX
    obtain ⟨h1, h2⟩ := hX
    clear hS
    go_simp
    try with_reducible rfl
  try simp [Act.put]
  refine wpAnyH_take (i := 1) (v := .int .i64 z0) rfl (by kernel_rfl) (by kernel_rfl) (by kernel_rfl) (fun _ _ _ h => h) (Or.inl ⟨by rfl, ?_⟩) hS ?_
  · intro X hX
    obtain ⟨h1, h2⟩ := hX
    clear hS
    go_simp
    try with_reducible rfl
  try simp [Act.put]
  refine wpAnyH_take (i := 2) (v := .pointer (some ⟨w.heap.size, 1, none⟩)) rfl (by kernel_rfl) (by kernel_rfl) (by kernel_rfl) (fun _ _ _ h => h) (Or.inl ⟨by rfl, ?_⟩) hS ?_
  · intro X hX
    obtain ⟨h1, h2⟩ := hX
    clear hS
    go_simp
    try with_reducible rfl
  try simp [Act.put]
  refine wpAnyH_take (i := 3) (v := .slice a n c) rfl (by kernel_rfl) (by kernel_rfl) (by kernel_rfl) (fun _ _ _ h => h) (Or.inl ⟨by rfl, ?_⟩) hS ?_
  · intro X hX
    obtain ⟨h1, h2⟩ := hX
    clear hS
    go_simp
    try with_reducible rfl
  try simp [Act.put]
  refine wpAnyH_ready (rs := [4]) (by kernel_rfl) (by simp) ?_
  refine AllReadyH.cons rfl (fun K hK => ?_) AllReadyH.nil
  go_simp
  go_wp2_with (go_at_call 37; refine (unhide HA _ (unhide B0)).mono ?_; rintro e w1 ⟨u, rfl, R1, b1⟩)
  have X2 := hide ((unhide X1).up b1)
  have Y2 := hide ((unhide Y1).up b1)
  have B2 := hide ((unhide B0).trans (b1.mono (unhide B0).size))
  obtain ⟨ua, uc, hu⟩ := MkRow.slice (unhide R1)
  subst hu
  clear b1
  refine hK.out _ _ ⟨(unhide X2).1.2 0 _ rfl, (unhide X2).1.2 1 _ rfl⟩ ?_
  clear hK K
  intro hS
  try simp [Act.put]
  have y0 := (unhide Y2).1.2 0 _ rfl
  have y1 := (unhide Y2).1.2 1 _ rfl
  have j0 := (unhide Y2).2 0 (by simp)
  have j1 := (unhide Y2).2 1 (by simp)
  have KS := hide (show ∀ (X : World) (i : Nat) (v : Value), (X.cell? ⟨w.heap.size, 0, none⟩ = some (.int .i64 z0) ∧ X.cell? ⟨w.heap.size, 1, none⟩ = some (.slice a n c)) → ((X.setCell ⟨w.heap.size + 1, i, none⟩ v).cell? ⟨w.heap.size, 0, none⟩ = some (.int .i64 z0) ∧ (X.setCell ⟨w.heap.size + 1, i, none⟩ v).cell? ⟨w.heap.size, 1, none⟩ = some (.slice a n c)) from fun X i v hX =>
    ⟨(World.cell?_setCell_other _ _ _ _ (by intro e; have := congrArg Addr.block e; simp at this)).trans hX.1, (World.cell?_setCell_other _ _ _ _ (by intro e; have := congrArg Addr.block e; simp at this)).trans hX.2⟩)
  refine wpAnyH_ready (rs := [5]) (by kernel_rfl) (by simp) ?_
  refine AllReadyH.cons rfl (fun K hK => ?_) AllReadyH.nil
  go_simp
  refine hK.out _ _ (hS) ?_
  clear hK K
  intro hS
  try simp [Act.put]
  refine wpAnyH_ready (rs := [6]) (by kernel_rfl) (by simp) ?_
  refine AllReadyH.cons rfl (fun K hK => ?_) AllReadyH.nil
  go_simp
  refine hK.out _ _ (unhide KS _ _ _ (unhide KS _ _ _ hS)) ?_
  clear hK K
  intro hS
  try simp [Act.put]
  refine wpAnyH_done (by kernel_rfl) ?_ _
  clear hS
  have KEY := hide (show ∀ X, Turn [w.heap.size + 1] w1 X → ∃ u, Ending.returned (.agg #[.int .i64 z0, .slice ua ms.length uc]) = .returned (.agg #[.int .i64 z0, u]) ∧ Hid (MkRow w.heap.size X u ms) ∧ Below w.heap.size w X from fun X ht => ⟨_, rfl, hide (MkRow.mono (MkRow.keep (unhide R1) (fun y hy => ht.block y (MkRow.lt (unhide R1) y hy) (fun hm => by have := MkRow.ge (unhide R1) y hy; have := unhide HZ0; simp at hm; omega))) (by have := unhide HZ0; omega)), (unhide B2).trans (ht.below (unhide B2).size (fun y hy => by simp at hy; omega))⟩)
  go_wp2_with fail
  refine bodyPost_ret (v := .agg #[.int .i64 z0, .slice ua ms.length uc]) (by simp [results, Try.results25, go_sem, y0, y1]) rfl ?_
  exact unhide KEY _ (((Turn.refl _ _).setCell (by simp) _ _).setCell (by simp) _ _)
end Go.Proofs.Ytlbhandkpnjgmaa
