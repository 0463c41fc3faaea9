/-
  DERIVED: THE SHELF's CONTRACTS AT THIS DUMP, IN PLAIN WORDS (tools/lay-plain.mjs out of 'TryShelf.lean', which tools/lay-shelf.mjs wrote): THE SAME DECLARATIONS UNDER THE SAME NAMES: 'import', 'namespace', 'open', 'def', 'theorem' AND NOTHING ELSE: no command of the shelf's: FOR A HAND-IN. Each laying: the table of numbers ('.._ren') and one theorem, a field a fact of the dump's own or the kernel's comparison; each contract: ONE APPLICATION.
-/
/-
  A mark with a text of its own.
-/
import Derived.Shelf.LaysM
import Derived.Shelf.Strconv.Clone
import Derived.Test.YtlbhandkpnjgmaaProg
import Derived.Test.YtlbhandkpnjgmaaMerged9
import Derived.Test.YtlbhandkpnjgmaaMerged11
import Derived.Test.YtlbhandkpnjgmaaBoxes
import Derived.Handy
import Derived.Deep.RegionHeld3
namespace Go.Proofs
open Go.Shelf
def Try.laysM316_ren : Go.Shelf.Ren := ⟨fun | 316 => 56 | n => n, fun | 9 => 9 | 3 => 3 | 4 => 4 | 37 => 22 | 0 => 0 | 127 => 94 | 5 => 5 | n => n, fun | n => n⟩
theorem Try.laysM316 : Go.Proofs.LaysM.n316 Try.prog Try.laysM316_ren := {
  mixed := by kernel_rfl
  f316 := Try.func56.trans (congrArg some (by kernel_rfl))
  t0 := Try.underlying0
  a0 := Try.isAgg0
  z0 := Try.sizeOf0
  v0 := Try.zeroValue0
  t3 := Try.underlying3
  a3 := Try.isAgg3
  z3 := Try.sizeOf3
  v3 := Try.zeroValue3
  t4 := Try.underlying4
  a4 := Try.isAgg4
  z4 := Try.sizeOf4
  v4 := Try.zeroValue4
  t9 := Try.underlying9
  a9 := Try.isAgg9
  z9 := Try.sizeOf9
  v9 := Try.zeroValue9
  t37 := Try.underlying22
  a37 := Try.isAgg22
  z37 := Try.sizeOf22
  v37 := Try.zeroValue22
  t127 := Try.underlying94
  a127 := Try.isAgg94
  z127 := Try.sizeOf94
  v127 := Try.zeroValue94
  t5 := Try.underlying5
  a5 := Try.isAgg5
  z5 := Try.sizeOf5
  v5 := Try.zeroValue5
  i0 := by kernel_rfl
  i3 := by kernel_rfl
  i4 := by kernel_rfl
  i5 := by kernel_rfl
  i9 := by kernel_rfl
  i37 := by kernel_rfl
  i127 := by kernel_rfl }
open Go.RowKit in
/-- internal/stringslite.Clone (what strings.Clone calls): "Clone returns a fresh copy of s.": THE SAME BYTES. Of what was there nothing has turned (a new row is laid, and frozen, where s is not empty). (LAID: no walk: one application.) -/
theorem Try.stringslite_Clone (s : ByteArray) (w : World) (hlim : s.size ≤ 281474976710656) :
    Calls Try.prog 56 #[.string s] w fun e w' => e = .returned (.string s) ∧ Below w.heap.size w w' := Any.stringslite_Clone Try.laysM316 s w hlim
end Go.Proofs

set_option linter.unusedVariables false
namespace Go.Proofs.Ytlbhandkpnjgmaa
open Go.RowKit Go.Maps Go.Deep

theorem clone_any' (s : ByteArray) (w : World) (hs : s.size ≤ 1048576) : Calls Try.prog 54 #[.string s] w fun e w' => e = .returned (.string s) ∧ Below w.heap.size w w' := by
  have HK := hide (Try.stringslite_Clone s w (by omega))
  clear hs
  go_enter Try.func54, Try.ntmps54
  go_wp2_with fail
  refine (unhide HK).mono ?_
  rintro e w1 ⟨rfl, b1⟩
  have B1 := hide b1
  clear b1
  go_wp2_with fail
  go_ret
  exact ⟨rfl, unhide B1⟩
set_option maxHeartbeats 1600000 in
theorem markOwn_any (z0 : ByteArray) (z1 : Int) (w : World) (hs : z0.size ≤ 1048576) :
    Calls Try.prog 49 #[.agg #[.string z0, .int .i64 z1]] w fun e w' => e = .returned (.agg #[.string z0, .int .i64 z1]) ∧ Below w.heap.size w w' := by
  have HK := hide (fun W => clone_any' z0 W hs)
  have X0 := hide ((boxF_new w [.string z0, .int .i64 z1] 76).up ((Below.refl _ _).alloc (Nat.le_refl _) (.cells #[.string ⟨#[]⟩, .int .i64 0] 76)))
  have Y0 := hide (boxF_new (w.alloc (.cells #[.string z0, .int .i64 z1] 76)) [.string ⟨#[]⟩, .int .i64 0] 76)
  have B0 := hide (((Below.refl w.heap.size w).alloc (Nat.le_refl _) (.cells #[.string z0, .int .i64 z1] 76)).alloc (by simp) (.cells #[.string ⟨#[]⟩, .int .i64 0] 76))
  rw [World.size_alloc] at Y0
  clear hs
  go_enter Try.func49, Try.ntmps49
  go_wp2_with fail
  replace X0 : Hid (BoxF ((w.alloc (.cells #[.string z0, .int .i64 z1] 76)).alloc (.cells #[.string ⟨#[]⟩, .int .i64 0] 76)) w.heap.size [.string z0, .int .i64 z1]) := X0
  replace Y0 : Hid (BoxF ((w.alloc (.cells #[.string z0, .int .i64 z1] 76)).alloc (.cells #[.string ⟨#[]⟩, .int .i64 0] 76)) (w.heap.size + 1) [.string ⟨#[]⟩, .int .i64 0]) := Y0
  generalize (w.alloc (.cells #[.string z0, .int .i64 z1] 76)).alloc (.cells #[.string ⟨#[]⟩, .int .i64 0] 76) = W2 at *
  have BD := hide (show Below W2.heap.size W2 W2.drew from (Below.refl _ _).drew)
  have KK := hide (show ∀ X, Below W2.heap.size W2 X → (fun X : World => X.cell? ⟨w.heap.size, 0, none⟩ = some (.string z0) ∧ X.cell? ⟨w.heap.size, 1, none⟩ = some (.int .i64 z1)) X ∧ BoxF X (w.heap.size + 1) [.string ⟨#[]⟩, .int .i64 0] from fun X b => ⟨⟨((unhide X0).up b).1.2 0 _ rfl, ((unhide X0).up b).1.2 1 _ rfl⟩, (unhide Y0).up b⟩)
  have KS := hide (show ∀ (X : World) {i j : Nat} {v u : Value}, X.cell? ⟨w.heap.size, j, none⟩ = some u → (X.setCell ⟨w.heap.size + 1, i, none⟩ v).cell? ⟨w.heap.size, j, none⟩ = some u from fun X i j v u hX => (World.cell?_setCell_other _ _ _ _ (fun e => by have h1 := congrArg Addr.block e; simp at h1)).trans hX)
  have hS := (unhide KK _ (unhide BD)).1
  refine wp_region_held_drew (S := fun X : World => X.cell? ⟨w.heap.size, 0, none⟩ = some (.string z0) ∧ X.cell? ⟨w.heap.size, 1, none⟩ = some (.int .i64 z1)) (by kernel_rfl) hS ?_
  intro hS
  refine wpAnyH_take (i := 0) (v := .pointer (some ⟨w.heap.size, 0, none⟩)) rfl (by kernel_rfl) (by kernel_rfl) (by kernel_rfl) (fun _ _ _ h => h) (Or.inl ⟨by rfl, ?_⟩) hS ?_
  · intro X hX
    obtain ⟨hX0, hX1⟩ := hX
    clear hS
    go_simp
    try with_reducible rfl
  try simp [Act.put]
  refine wpAnyH_take (i := 1) (v := .string z0) rfl (by kernel_rfl) (by kernel_rfl) (by kernel_rfl) (fun _ _ _ h => h) (Or.inl ⟨by rfl, ?_⟩) hS ?_
  · intro X hX
    obtain ⟨hX0, hX1⟩ := hX
    clear hS
    go_simp
    try with_reducible rfl
  try simp [Act.put]
  refine wpAnyH_take (i := 3) (v := .pointer (some ⟨w.heap.size, 1, none⟩)) rfl (by kernel_rfl) (by kernel_rfl) (by kernel_rfl) (fun _ _ _ h => h) (Or.inl ⟨by rfl, ?_⟩) hS ?_
  · intro X hX
    obtain ⟨hX0, hX1⟩ := hX
    clear hS
    go_simp
    try with_reducible rfl
  try simp [Act.put]
  refine wpAnyH_take (i := 4) (v := .int .i64 z1) rfl (by kernel_rfl) (by kernel_rfl) (by kernel_rfl) (fun _ _ _ h => h) (Or.inl ⟨by rfl, ?_⟩) hS ?_
  · intro X hX
    obtain ⟨hX0, hX1⟩ := hX
    clear hS
    go_simp
    try with_reducible rfl
  try simp [Act.put]
  refine wpAnyH_ready (rs := [2]) (by kernel_rfl) (by simp) ?_
  refine AllReadyH.cons rfl (fun K hK => ?_) AllReadyH.nil
  go_simp
  go_wp2_with (go_at_call 54; refine (unhide HK _).mono ?_; rintro e w4 ⟨rfl, b4⟩; have B34 := hide ((unhide BD).trans (b4.mono (unhide BD).size)); clear b4)
  refine hK.out _ _ (unhide KK _ (unhide B34)).1 ?_
  clear hK K
  intro hS
  try simp [Act.put]
  have Y4 := hide (unhide KK _ (unhide B34)).2
  have y0 := (unhide Y4).1.2 0 _ rfl
  have y1 := (unhide Y4).1.2 1 _ rfl
  have j0 := (unhide Y4).2 0 (by simp)
  have j1 := (unhide Y4).2 1 (by simp)
  refine wpAnyH_ready (rs := [5]) (by kernel_rfl) (by simp) ?_
  refine AllReadyH.cons rfl (fun K hK => ?_) AllReadyH.nil
  go_simp
  refine hK.out _ _ hS ?_
  clear hK K
  intro hS
  try simp [Act.put]
  refine wpAnyH_ready (rs := [6]) (by kernel_rfl) (by simp) ?_
  refine AllReadyH.cons rfl (fun K hK => ?_) AllReadyH.nil
  go_simp
  refine hK.out _ _ ⟨unhide KS _ (unhide KS _ hS.1), unhide KS _ (unhide KS _ hS.2)⟩ ?_
  clear hK K
  intro hS
  try simp [Act.put]
  refine wpAnyH_done (by kernel_rfl) ?_ _
  go_wp2_with fail
  refine bodyPost_ret (v := .agg #[.string z0, .int .i64 z1]) (by simp [results, Try.results49, go_sem, y0, y1]) rfl ?_
  have b4 := (unhide B0).trans ((unhide B34).mono (unhide B0).size)
  exact ⟨rfl, (b4.setCell (p := ⟨w.heap.size + 1, 0, none⟩) (by simp) _).setCell (p := ⟨w.heap.size + 1, 1, none⟩) (by simp) _⟩
end Go.Proofs.Ytlbhandkpnjgmaa
