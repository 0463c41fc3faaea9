/-
  Boxed variables in memory: what a block of cells holds, kept from world to world.
-/
/-
  A mark with a text of its own.
-/
/-
  An item with memory of its own.
-/
/-
  Marks of one list put behind another row.
-/
import Derived.Test.YtknkdbfgfcgkiaaGreatDoorMerged3
import Derived.Test.YtknkdbfgfcgkiaaGreatDoorMerged9
import Derived.Test.YtknkdbfgfcgkiaaGreatDoorMerged4
import Derived.Test.YtknkdbfgfcgkiaaGreatDoorMerged7
import Derived.Handy
import Derived.Deep.RegionHeld3
set_option linter.unusedVariables false
namespace Go.Proofs.YtknkdbfgfcgkiaaGreatDoor
open Go.RowKit Go.Maps

def BoxIs (w : World) (g : Nat) (xs : List Value) : Prop := g < w.heap.size ∧ ∀ i v, xs[i]? = some v → w.cell? ⟨g, i, none⟩ = some v
theorem BoxIs.up {w w' : World} {g : Nat} {xs : List Value} (h : BoxIs w g xs) (hb : Below w.heap.size w w') : BoxIs w' g xs :=
  ⟨Nat.lt_of_lt_of_le h.1 hb.size, fun i v hv => (hb.cell (by exact h.1)).trans (h.2 i v hv)⟩
theorem BoxIs.turn {S : List Nat} {w w' : World} {g : Nat} {xs : List Value} (h : BoxIs w g xs) (ht : Turn S w w') (hS : g ∉ S) : BoxIs w' g xs :=
  ⟨Nat.lt_of_lt_of_le h.1 ht.size, fun i v hv => (ht.cell h.1 hS).trans (h.2 i v hv)⟩
theorem BoxIs.at {w : World} {g : Nat} {xs : List Value} (h : BoxIs w g xs) (i : Nat) (v : Value) (hv : xs[i]? = some v) : w.cell? ⟨g, i, none⟩ = some v := h.2 i v hv
theorem BoxIs.four {w : World} {g : Nat} {a b c d : Value} (h : BoxIs w g [a, b, c, d]) : w.cell? ⟨g, 0, none⟩ = some a ∧ w.cell? ⟨g, 1, none⟩ = some b ∧ w.cell? ⟨g, 2, none⟩ = some c ∧ w.cell? ⟨g, 3, none⟩ = some d :=
  ⟨h.2 0 _ rfl, h.2 1 _ rfl, h.2 2 _ rfl, h.2 3 _ rfl⟩
theorem boxMade (w : World) (xs : List Value) (T : TypeId) : BoxIs (w.alloc (.cells xs.toArray T)) w.heap.size xs :=
  ⟨by simp, fun i v hv => by rw [World.cell?_alloc_at _ _ _ _ rfl]; simpa using hv⟩
theorem BoxIs.two {w : World} {g : Nat} {a b : Value} (h : BoxIs w g [a, b]) : w.cell? ⟨g, 0, none⟩ = some a ∧ w.cell? ⟨g, 1, none⟩ = some b := ⟨h.2 0 _ rfl, h.2 1 _ rfl⟩
theorem boxNew2 (w : World) (a b : Value) (T : TypeId) : BoxIs (w.alloc (.cells #[a, b] T)) w.heap.size [a, b] ∧ Below w.heap.size w (w.alloc (.cells #[a, b] T)) ∧ w.heap.size < (w.alloc (.cells #[a, b] T)).heap.size :=
  ⟨boxMade w [a, b] T, (Below.refl _ _).alloc (Nat.le_refl _) _, by simp⟩
def IntFit (n : Int) : Prop := -9223372036854775808 ≤ n ∧ n ≤ 9223372036854775807
/-- a block of cells that may be written -/
def BoxF (w : World) (g : Nat) (xs : List Value) : Prop := BoxIs w g xs ∧ ∀ i, i < xs.length → w.frozen? ⟨g, i, none⟩ = false
theorem BoxF.up {w w' : World} {g : Nat} {xs : List Value} (h : BoxF w g xs) (hb : Below w.heap.size w w') : BoxF w' g xs := ⟨h.1.up hb, fun i hi => (hb.frozen (by exact h.1.1)).trans (h.2 i hi)⟩
theorem BoxF.turn {S : List Nat} {w w' : World} {g : Nat} {xs : List Value} (h : BoxF w g xs) (ht : Turn S w w') (hS : g ∉ S) : BoxF w' g xs := ⟨h.1.turn ht hS, fun i hi => (ht.frozen h.1.1 hS).trans (h.2 i hi)⟩
theorem BoxF.set {w : World} {g : Nat} {xs : List Value} (h : BoxF w g xs) (i : Nat) (v : Value) (hi : i < xs.length) : BoxF (w.setCell ⟨g, i, none⟩ v) g (xs.set i v) := by
  refine ⟨⟨by simpa using h.1.1, fun j x hx => ?_⟩, fun j hj => ?_⟩
  · by_cases e : j = i
    · subst e
      rw [List.getElem?_set_self hi] at hx
      cases hx
      exact World.cell?_setCell_same _ _ _ (h.1.2 j _ (List.getElem?_eq_getElem hi))
    · rw [List.getElem?_set_ne (fun q => e q.symm)] at hx
      rw [World.cell?_setCell_other _ _ _ _ (by intro q; have := congrArg Addr.off q; simp only at this; omega)]
      exact h.1.2 j x hx
  · rw [World.frozen?_setCell]
    exact h.2 j (by simpa using hj)
theorem BoxF.far {w : World} {g g' : Nat} {xs : List Value} (h : BoxF w g xs) (i : Nat) (v : Value) (hg : g ≠ g') : BoxF (w.setCell ⟨g', i, none⟩ v) g xs := h.turn ((Turn.refl [g'] w).setCell (by simp) i v) (by simpa using hg)
theorem boxF_new (w : World) (xs : List Value) (T : TypeId) : BoxF (w.alloc (.cells xs.toArray T)) w.heap.size xs := by
  refine ⟨boxMade w xs T, fun i hi => ?_⟩
  simp
theorem BoxF.four {w : World} {g : Nat} {a b c d : Value} (h : BoxF w g [a, b, c, d]) : (w.cell? ⟨g, 0, none⟩ = some a ∧ w.cell? ⟨g, 1, none⟩ = some b ∧ w.cell? ⟨g, 2, none⟩ = some c ∧ w.cell? ⟨g, 3, none⟩ = some d) ∧ (w.frozen? ⟨g, 0, none⟩ = false ∧ w.frozen? ⟨g, 1, none⟩ = false ∧ w.frozen? ⟨g, 2, none⟩ = false ∧ w.frozen? ⟨g, 3, none⟩ = false) :=
  ⟨h.1.four, h.2 0 (by simp), h.2 1 (by simp), h.2 2 (by simp), h.2 3 (by simp)⟩
end Go.Proofs.YtknkdbfgfcgkiaaGreatDoor

set_option linter.unusedVariables false
namespace Go.Proofs.YtknkdbfgfcgkiaaGreatDoor
open Go.RowKit Go.Maps Go.Deep

theorem clone_any' (s : ByteArray) (w : World) (hs : s.size ≤ 1048576) : Calls Tryz.prog 98 #[.string s] w fun e w' => e = .returned (.string s) ∧ Below w.heap.size w w' := by
  have HK := hide (Tryz.stringslite_Clone s w (by omega))
  clear hs
  go_enter Tryz.func98, Tryz.ntmps98
  go_wp2_with fail
  refine (unhide HK).mono ?_
  rintro e w1 ⟨rfl, b1⟩
  have B1 := hide b1
  clear b1
  go_wp2_with fail
  go_ret
  exact ⟨rfl, unhide B1⟩
set_option maxHeartbeats 1600000 in
theorem markOwn_any (z0 : ByteArray) (z1 : Int) (w : World) (hs : z0.size ≤ 1048576) :
    Calls Tryz.prog 100 #[.agg #[.string z0, .int .i64 z1]] w fun e w' => e = .returned (.agg #[.string z0, .int .i64 z1]) ∧ Below w.heap.size w w' := by
  have HK := hide (fun W => clone_any' z0 W hs)
  have X0 := hide ((boxF_new w [.string z0, .int .i64 z1] 112).up ((Below.refl _ _).alloc (Nat.le_refl _) (.cells #[.string ⟨#[]⟩, .int .i64 0] 112)))
  have Y0 := hide (boxF_new (w.alloc (.cells #[.string z0, .int .i64 z1] 112)) [.string ⟨#[]⟩, .int .i64 0] 112)
  have B0 := hide (((Below.refl w.heap.size w).alloc (Nat.le_refl _) (.cells #[.string z0, .int .i64 z1] 112)).alloc (by simp) (.cells #[.string ⟨#[]⟩, .int .i64 0] 112))
  rw [World.size_alloc] at Y0
  clear hs
  go_enter Tryz.func100, Tryz.ntmps100
  go_wp2_with fail
  replace X0 : Hid (BoxF ((w.alloc (.cells #[.string z0, .int .i64 z1] 112)).alloc (.cells #[.string ⟨#[]⟩, .int .i64 0] 112)) w.heap.size [.string z0, .int .i64 z1]) := X0
  replace Y0 : Hid (BoxF ((w.alloc (.cells #[.string z0, .int .i64 z1] 112)).alloc (.cells #[.string ⟨#[]⟩, .int .i64 0] 112)) (w.heap.size + 1) [.string ⟨#[]⟩, .int .i64 0]) := Y0
  generalize (w.alloc (.cells #[.string z0, .int .i64 z1] 112)).alloc (.cells #[.string ⟨#[]⟩, .int .i64 0] 112) = W2 at *
  have BD := hide (show Below W2.heap.size W2 W2.drew from (Below.refl _ _).drew)
  have KK := hide (show ∀ X, Below W2.heap.size W2 X → (fun X : World => X.cell? ⟨w.heap.size, 0, none⟩ = some (.string z0) ∧ X.cell? ⟨w.heap.size, 1, none⟩ = some (.int .i64 z1)) X ∧ BoxF X (w.heap.size + 1) [.string ⟨#[]⟩, .int .i64 0] from fun X b => ⟨⟨((unhide X0).up b).1.2 0 _ rfl, ((unhide X0).up b).1.2 1 _ rfl⟩, (unhide Y0).up b⟩)
  have KS := hide (show ∀ (X : World) {i j : Nat} {v u : Value}, X.cell? ⟨w.heap.size, j, none⟩ = some u → (X.setCell ⟨w.heap.size + 1, i, none⟩ v).cell? ⟨w.heap.size, j, none⟩ = some u from fun X i j v u hX => (World.cell?_setCell_other _ _ _ _ (fun e => by have h1 := congrArg Addr.block e; simp at h1)).trans hX)
  have hS := (unhide KK _ (unhide BD)).1
  refine wp_region_held_drew (S := fun X : World => X.cell? ⟨w.heap.size, 0, none⟩ = some (.string z0) ∧ X.cell? ⟨w.heap.size, 1, none⟩ = some (.int .i64 z1)) (by kernel_rfl) hS ?_
  intro hS
  refine wpAnyH_take (i := 0) (v := .pointer (some ⟨w.heap.size, 0, none⟩)) rfl (by kernel_rfl) (by kernel_rfl) (by kernel_rfl) (fun _ _ _ h => h) (Or.inl ⟨by rfl, ?_⟩) hS ?_
  · intro X hX
    obtain ⟨hX0, hX1⟩ := hX
    clear hS
    go_simp
    try with_reducible rfl
  try simp [Act.put]
  refine wpAnyH_take (i := 1) (v := .string z0) rfl (by kernel_rfl) (by kernel_rfl) (by kernel_rfl) (fun _ _ _ h => h) (Or.inl ⟨by rfl, ?_⟩) hS ?_
  · intro X hX
    obtain ⟨hX0, hX1⟩ := hX
    clear hS
    go_simp
    try with_reducible rfl
  try simp [Act.put]
  refine wpAnyH_take (i := 3) (v := .pointer (some ⟨w.heap.size, 1, none⟩)) rfl (by kernel_rfl) (by kernel_rfl) (by kernel_rfl) (fun _ _ _ h => h) (Or.inl ⟨by rfl, ?_⟩) hS ?_
  · intro X hX
    obtain ⟨hX0, hX1⟩ := hX
    clear hS
    go_simp
    try with_reducible rfl
  try simp [Act.put]
  refine wpAnyH_take (i := 4) (v := .int .i64 z1) rfl (by kernel_rfl) (by kernel_rfl) (by kernel_rfl) (fun _ _ _ h => h) (Or.inl ⟨by rfl, ?_⟩) hS ?_
  · intro X hX
    obtain ⟨hX0, hX1⟩ := hX
    clear hS
    go_simp
    try with_reducible rfl
  try simp [Act.put]
  refine wpAnyH_ready (rs := [2]) (by kernel_rfl) (by simp) ?_
  refine AllReadyH.cons rfl (fun K hK => ?_) AllReadyH.nil
  go_simp
  go_wp2_with (go_at_call 98; refine (unhide HK _).mono ?_; rintro e w4 ⟨rfl, b4⟩; have B34 := hide ((unhide BD).trans (b4.mono (unhide BD).size)); clear b4)
  refine hK.out _ _ (unhide KK _ (unhide B34)).1 ?_
  clear hK K
  intro hS
  try simp [Act.put]
  have Y4 := hide (unhide KK _ (unhide B34)).2
  have y0 := (unhide Y4).1.2 0 _ rfl
  have y1 := (unhide Y4).1.2 1 _ rfl
  have j0 := (unhide Y4).2 0 (by simp)
  have j1 := (unhide Y4).2 1 (by simp)
  refine wpAnyH_ready (rs := [5]) (by kernel_rfl) (by simp) ?_
  refine AllReadyH.cons rfl (fun K hK => ?_) AllReadyH.nil
  go_simp
  refine hK.out _ _ hS ?_
  clear hK K
  intro hS
  try simp [Act.put]
  refine wpAnyH_ready (rs := [6]) (by kernel_rfl) (by simp) ?_
  refine AllReadyH.cons rfl (fun K hK => ?_) AllReadyH.nil
  go_simp
  refine hK.out _ _ ⟨unhide KS _ (unhide KS _ hS.1), unhide KS _ (unhide KS _ hS.2)⟩ ?_
  clear hK K
  intro hS
  try simp [Act.put]
  refine wpAnyH_done (by kernel_rfl) ?_ _
  go_wp2_with fail
  refine bodyPost_ret (v := .agg #[.string z0, .int .i64 z1]) (by simp [results, Tryz.results100, go_sem, y0, y1]) rfl ?_
  have b4 := (unhide B0).trans ((unhide B34).mono (unhide B0).size)
  exact ⟨rfl, (b4.setCell (p := ⟨w.heap.size + 1, 0, none⟩) (by simp) _).setCell (p := ⟨w.heap.size + 1, 1, none⟩) (by simp) _⟩
end Go.Proofs.YtknkdbfgfcgkiaaGreatDoor

set_option linter.unusedVariables false
namespace Go.Proofs.YtknkdbfgfcgkiaaGreatDoor
open Go.RowKit Go.Maps Go.Deep

set_option maxHeartbeats 3200000 in
theorem ownStamp_any (ns : List MarkV) (v : Value) (w : World) (hs : SmallMarkS ns) (hl : ns.length ≤ 1000000) (h : MarkSRd w v ns) :
    Calls Tryz.prog 75 #[v] w fun e w' => ∃ u, e = .returned u ∧ Hid (MkRow w.heap.size w' u ns) ∧ Below w.heap.size w w' := by
  obtain ⟨a, cap, rfl, h⟩ := h
  have HA := hide h
  have HSZ := hide (show ∀ x ∈ ns, x.a0.size ≤ 1048576 from fun x hx => hs.1.2 x hx)
  clear h hs
  go_enter Tryz.func75, Tryz.ntmps75
  go_wp2_with fail
  go_loopw [3, 8] (fun v i wr => ∃ (k : Nat), k ≤ ns.length ∧ i = .int .i64 k ∧ Hid (MkRow w.heap.size wr v (ns.take k)) ∧ Hid (Below w.heap.size w wr)) (fun _ i _ => ns.length - (intOf i).toNat)
  case atStart => exact ⟨0, Nat.zero_le _, rfl, MkRow.nil _ _, Below.refl _ _⟩
  case round =>
    obtain ⟨k, hk, rfl, HR, HBr⟩ := hrel
    have hlo : (ns.take k).length ≤ 1000000 := by simp; omega
    obtain ⟨av, cv, hv⟩ := (unhide HR).slice
    subst hv
    by_cases hlt : k < ns.length
    · rcases unhide HA with rfl | ⟨ba, oa, rfl, hba, hca⟩
      · simp at hlt
      have HT := hide (show ns.take (k + 1) = ns.take k ++ [ns[k]] from List.take_succ_eq_append_getElem hlt)
      obtain ⟨c0, c1⟩ := hca.below (unhide HBr) hba k hlt
      have hms := unhide HSZ _ (List.getElem_mem hlt)
      obtain ⟨m, hm⟩ : ∃ m, ns[k] = m := ⟨_, rfl⟩
      simp only [hm] at c0 c1 HT hms
      clear hca hm
      obtain ⟨m0, m1⟩ := m
      simp only at c0 c1 HT hms
      obtain ⟨bx, bb, zz⟩ := boxNew2 wr (.string m0) (.int .i64 m1) 112
      have HOWN := hide (fun X => markOwn_any m0 m1 X hms)
      clear hms
      generalize ns.take k = out at *
      obtain ⟨d0, d1⟩ := bx.two
      go_wp2_with fail
      generalize wr.alloc (.cells #[.string m0, .int .i64 m1] 112) = W1 at *
      have BW := hide ((unhide HBr).trans (bb.mono (unhide HBr).size))
      have RW := hide ((unhide HR).up bb)
      clear bx bb zz c0 c1
      refine (unhide HOWN _).mono ?_
      rintro e w3 ⟨rfl, b3⟩
      have B3 := hide ((unhide BW).trans (b3.mono (unhide BW).size))
      have R3 := hide ((unhide RW).up b3)
      clear b3 d0 d1
      have hz1 : w.heap.size ≤ (w3.alloc (.cells #[.string m0, .int .i64 m1] 112)).heap.size := by have := (unhide B3).size; simp; omega
      have RA1 := hide ((unhide R3).up ((Below.refl _ _).alloc (Nat.le_refl _) (.cells #[.string m0, .int .i64 m1] 112)))
      have BA1 := hide ((unhide B3).alloc (unhide B3).size (.cells #[.string m0, .int .i64 m1] 112))
      have ca1 : (w3.alloc (.cells #[.string m0, .int .i64 m1] 112)).cell? ⟨w3.heap.size, 0, none⟩ = some (.string m0) := World.cell?_alloc_at _ _ _ _ rfl
      have cb1 : (w3.alloc (.cells #[.string m0, .int .i64 m1] 112)).cell? ⟨w3.heap.size, 1, none⟩ = some (.int .i64 m1) := World.cell?_alloc_at _ _ _ _ rfl
      go_wp2_with (first
        | (at_builtin; have _g := RA1; refine wpList_markAppend rfl _ _ rfl w.heap.size (.slice av out.length cv) out ⟨m0, m1⟩ w3.heap.size rfl rfl (unhide RA1) ca1 cb1 (by omega) hz1 ?_; intro g1 n1 cp1 X1 hr1 hg1 hlie1; have RX1 := hide hr1; have BX1 := hide ((unhide BA1).grown hg1 (unhide BA1).size (fun q hq => (unhide RA1).ge q hq)); clear hr1 hg1 hlie1 RA1 BA1)
        | fail)
      clear ca1 cb1 hz1
      go_roundw
      case rel => exact ⟨k + 1, by omega, by go_num, by rw [unhide HT]; exact RX1, BX1⟩
      case measure => simp [intOf]; omega
    · obtain rfl : k = ns.length := by omega
      have HR2 := hide (show MkRow w.heap.size wr (.slice av (ns.take ns.length).length cv) ns by
        have h := unhide HR
        generalize Value.slice av (ns.take ns.length).length cv = V at *
        rw [List.take_length] at h
        exact h)
      go_wp2_with fail
      go_ret
      exact ⟨_, rfl, HR2, unhide HBr⟩
set_option maxHeartbeats 3200000 in
theorem ownItem_any (z0 : Int) (z1 : Value) (ms : List MarkV) (w : World) (hs : SmallMarkS ms) (hl : ms.length ≤ 1000000) (h : MarkSRd w z1 ms) :
    Calls Tryz.prog 99 #[.agg #[.int .i64 z0, z1]] w fun e w' => ∃ u, e = .returned (.agg #[.int .i64 z0, u]) ∧ Hid (MkRow w.heap.size w' u ms) ∧ Below w.heap.size w w' := by
  have HA := hide (fun W (b : Below w.heap.size w W) => ownStamp_any ms z1 W hs hl (h.up b))
  obtain ⟨a, n, c, rfl⟩ := h.form
  clear h hs hl
  have X0 := hide ((boxF_new w [.int .i64 z0, .slice a n c] 44).up ((Below.refl _ _).alloc (Nat.le_refl _) (.cells #[.int .i64 0, .slice none 0 0] 44)))
  have Y0 := hide (boxF_new (w.alloc (.cells #[.int .i64 z0, .slice a n c] 44)) [.int .i64 0, .slice none 0 0] 44)
  go_enter Tryz.func99, Tryz.ntmps99
  go_wp2_with fail
  have HZ0 := hide (show ((w.alloc (.cells #[.int .i64 z0, .slice a n c] 44)).alloc (.cells #[.int .i64 0, .slice none 0 0] 44)).drew.heap.size = w.heap.size + 1 + 1 by simp [World.drew])
  have B0 := hide (show Below w.heap.size w ((w.alloc (.cells #[.int .i64 z0, .slice a n c] 44)).alloc (.cells #[.int .i64 0, .slice none 0 0] 44)).drew from (show Below w.heap.size w ((w.alloc (.cells #[.int .i64 z0, .slice a n c] 44)).alloc (.cells #[.int .i64 0, .slice none 0 0] 44)) by go_grown).drew)
  have X1 := hide (show BoxF ((w.alloc (.cells #[.int .i64 z0, .slice a n c] 44)).alloc (.cells #[.int .i64 0, .slice none 0 0] 44)).drew w.heap.size [.int .i64 z0, .slice a n c] from unhide X0)
  have Y1 := hide (show BoxF ((w.alloc (.cells #[.int .i64 z0, .slice a n c] 44)).alloc (.cells #[.int .i64 0, .slice none 0 0] 44)).drew (w.heap.size + 1) [.int .i64 0, .slice none 0 0] from show BoxF ((w.alloc (.cells #[.int .i64 z0, .slice a n c] 44)).alloc (.cells #[.int .i64 0, .slice none 0 0] 44)) (w.heap.size + 1) [.int .i64 0, .slice none 0 0] by simpa using unhide Y0)
  clear X0 Y0
  have hS : ((w.alloc (.cells #[.int .i64 z0, .slice a n c] 44)).alloc (.cells #[.int .i64 0, .slice none 0 0] 44)).drew.cell? ⟨w.heap.size, 0, none⟩ = some (.int .i64 z0) ∧ ((w.alloc (.cells #[.int .i64 z0, .slice a n c] 44)).alloc (.cells #[.int .i64 0, .slice none 0 0] 44)).drew.cell? ⟨w.heap.size, 1, none⟩ = some (.slice a n c) := ⟨(unhide X1).1.2 0 _ rfl, (unhide X1).1.2 1 _ rfl⟩
  refine wp_region_held_drew (S := fun X : World => X.cell? ⟨w.heap.size, 0, none⟩ = some (.int .i64 z0) ∧ X.cell? ⟨w.heap.size, 1, none⟩ = some (.slice a n c)) (by kernel_rfl) hS ?_
  clear hS
  intro hS
  generalize ((w.alloc (.cells #[.int .i64 z0, .slice a n c] 44)).alloc (.cells #[.int .i64 0, .slice none 0 0] 44)).drew = W at *
  refine wpAnyH_take (i := 0) (v := .pointer (some ⟨w.heap.size, 0, none⟩)) rfl (by kernel_rfl) (by kernel_rfl) (by kernel_rfl) (fun _ _ _ h => h) (Or.inl ⟨by rfl, ?_⟩) hS ?_
  · intro X hX
    obtain ⟨h1, h2⟩ := hX
    clear hS
    go_simp
    try with_reducible rfl
  try simp [Act.put]
  refine wpAnyH_take (i := 1) (v := .int .i64 z0) rfl (by kernel_rfl) (by kernel_rfl) (by kernel_rfl) (fun _ _ _ h => h) (Or.inl ⟨by rfl, ?_⟩) hS ?_
  · intro X hX
    obtain ⟨h1, h2⟩ := hX
    clear hS
    go_simp
    try with_reducible rfl
  try simp [Act.put]
  refine wpAnyH_take (i := 2) (v := .pointer (some ⟨w.heap.size, 1, none⟩)) rfl (by kernel_rfl) (by kernel_rfl) (by kernel_rfl) (fun _ _ _ h => h) (Or.inl ⟨by rfl, ?_⟩) hS ?_
  · intro X hX
    obtain ⟨h1, h2⟩ := hX
    clear hS
    go_simp
    try with_reducible rfl
  try simp [Act.put]
  refine wpAnyH_take (i := 3) (v := .slice a n c) rfl (by kernel_rfl) (by kernel_rfl) (by kernel_rfl) (fun _ _ _ h => h) (Or.inl ⟨by rfl, ?_⟩) hS ?_
  · intro X hX
    obtain ⟨h1, h2⟩ := hX
    clear hS
    go_simp
    try with_reducible rfl
  try simp [Act.put]
  refine wpAnyH_ready (rs := [4]) (by kernel_rfl) (by simp) ?_
  refine AllReadyH.cons rfl (fun K hK => ?_) AllReadyH.nil
  go_simp
  go_wp2_with (go_at_call 75; refine (unhide HA _ (unhide B0)).mono ?_; rintro e w1 ⟨u, rfl, R1, b1⟩)
  have X2 := hide ((unhide X1).up b1)
  have Y2 := hide ((unhide Y1).up b1)
  have B2 := hide ((unhide B0).trans (b1.mono (unhide B0).size))
  obtain ⟨ua, uc, hu⟩ := MkRow.slice (unhide R1)
  subst hu
  clear b1
  refine hK.out _ _ ⟨(unhide X2).1.2 0 _ rfl, (unhide X2).1.2 1 _ rfl⟩ ?_
  clear hK K
  intro hS
  try simp [Act.put]
  have y0 := (unhide Y2).1.2 0 _ rfl
  have y1 := (unhide Y2).1.2 1 _ rfl
  have j0 := (unhide Y2).2 0 (by simp)
  have j1 := (unhide Y2).2 1 (by simp)
  have KS := hide (show ∀ (X : World) (i : Nat) (v : Value), (X.cell? ⟨w.heap.size, 0, none⟩ = some (.int .i64 z0) ∧ X.cell? ⟨w.heap.size, 1, none⟩ = some (.slice a n c)) → ((X.setCell ⟨w.heap.size + 1, i, none⟩ v).cell? ⟨w.heap.size, 0, none⟩ = some (.int .i64 z0) ∧ (X.setCell ⟨w.heap.size + 1, i, none⟩ v).cell? ⟨w.heap.size, 1, none⟩ = some (.slice a n c)) from fun X i v hX =>
    ⟨(World.cell?_setCell_other _ _ _ _ (by intro e; have := congrArg Addr.block e; simp at this)).trans hX.1, (World.cell?_setCell_other _ _ _ _ (by intro e; have := congrArg Addr.block e; simp at this)).trans hX.2⟩)
  refine wpAnyH_ready (rs := [5]) (by kernel_rfl) (by simp) ?_
  refine AllReadyH.cons rfl (fun K hK => ?_) AllReadyH.nil
  go_simp
  refine hK.out _ _ (hS) ?_
  clear hK K
  intro hS
  try simp [Act.put]
  refine wpAnyH_ready (rs := [6]) (by kernel_rfl) (by simp) ?_
  refine AllReadyH.cons rfl (fun K hK => ?_) AllReadyH.nil
  go_simp
  refine hK.out _ _ (unhide KS _ _ _ (unhide KS _ _ _ hS)) ?_
  clear hK K
  intro hS
  try simp [Act.put]
  refine wpAnyH_done (by kernel_rfl) ?_ _
  clear hS
  have KEY := hide (show ∀ X, Turn [w.heap.size + 1] w1 X → ∃ u, Ending.returned (.agg #[.int .i64 z0, .slice ua ms.length uc]) = .returned (.agg #[.int .i64 z0, u]) ∧ Hid (MkRow w.heap.size X u ms) ∧ Below w.heap.size w X from fun X ht => ⟨_, rfl, hide (MkRow.mono (MkRow.keep (unhide R1) (fun y hy => ht.block y (MkRow.lt (unhide R1) y hy) (fun hm => by have := MkRow.ge (unhide R1) y hy; have := unhide HZ0; simp at hm; omega))) (by have := unhide HZ0; omega)), (unhide B2).trans (ht.below (unhide B2).size (fun y hy => by simp at hy; omega))⟩)
  go_wp2_with fail
  refine bodyPost_ret (v := .agg #[.int .i64 z0, .slice ua ms.length uc]) (by simp [results, Tryz.results99, go_sem, y0, y1]) rfl ?_
  exact unhide KEY _ (((Turn.refl _ _).setCell (by simp) _ _).setCell (by simp) _ _)
end Go.Proofs.YtknkdbfgfcgkiaaGreatDoor

set_option linter.unusedVariables false
namespace Go.Proofs.YtknkdbfgfcgkiaaGreatDoor
open Go.RowKit Go.Maps Go.Deep

theorem mkOne (ys : List MarkV) : ∀ u ∈ mkCells ys, u.oneCell' = true := by
  intro u hu
  simp only [mkCells, List.mem_flatMap] at hu
  obtain ⟨x, _, hx⟩ := hu
  simp at hx
  rcases hx with rfl | rfl <;> rfl
theorem mkNews {w : World} {b off : Nat} {ys : List MarkV} (h : MarkAt w b off ys) : ∀ j u, (mkCells ys)[j]? = some u → w.cell? ((⟨b, off, none⟩ : Addr).add j) = some u := by
  intro j u hu
  have hadd : (⟨b, off, none⟩ : Addr).add j = ⟨b, off + j, none⟩ := by unfold Addr.add; split <;> simp_all
  rw [hadd]
  obtain ⟨hj, _⟩ := List.getElem?_eq_some_iff.1 hu
  rw [mkCells_len] at hj
  obtain ⟨e0, e1⟩ := mkCells_get ys (j / 2) (by omega)
  obtain ⟨c0, c1⟩ := h (j / 2) (by omega)
  rcases Nat.mod_two_eq_zero_or_one j with hm | hm
  · have ej : j = j / 2 * 2 := by omega
    rw [← ej] at e0 c0
    rw [e0] at hu
    cases hu
    exact c0
  · have ej : j = j / 2 * 2 + 1 := by omega
    rw [← ej] at e1
    rw [show off + j / 2 * 2 + 1 = off + j by omega] at c1
    rw [e1] at hu
    cases hu
    exact c1
theorem mksAppend_run (B : Nat) (w : World) (v u : Value) (xs ys : List MarkV) (hv : MkRow B w v xs) (hu : MarkSRd w u ys) (h0 : ys ≠ []) (hl : xs.length + ys.length ≤ 1000000) (hB : B ≤ w.heap.size) (ty : TypeId) :
    ∃ g c w', (Builtin.append_ #[34, 34] ty #[v, u]).run Tryz.prog w = .ok (.slice (some ⟨g, 0, none⟩) (xs.length + ys.length) c) w' ∧ MkRow B w' (.slice (some ⟨g, 0, none⟩) (xs.length + ys.length) c) (xs ++ ys) ∧ w.grownBy w' v.ownBlock ∧ (v.ownBlock = some g ∨ g = w.heap.size) := by
  obtain ⟨i0, hi, hz0, hz1, hz2⟩ := info_parts1 infoMk
  obtain ⟨au, cu, rfl, hin⟩ := hu
  obtain ⟨b, off, rfl, hb, hc⟩ := hin.resolve_left h0
  have hpos : 0 < ys.length := List.length_pos_iff.2 h0
  obtain ⟨g, cap, w', h1, h2, h3, h4, h5⟩ := run_append_lies (P := Tryz.prog) (w := w) 34 ty B 112 i0 _ 2 24 Tryz.underlying34 hi hz0 hz1 hz2 rfl (by decide) v xs.length (mkCells xs) hv ⟨b, off, none⟩ ys.length cu (mkCells ys) (by rw [mkCells_len]) (mkNews hc) (mkOne ys) hpos (by unfold maxLen; omega) (by omega) hB w.heap.size rfl
  refine ⟨g, cap, w', h1, ?_, h3, h4⟩
  unfold MkRow
  rw [List.length_append, show mkCells (xs ++ ys) = mkCells xs ++ mkCells ys by simp [mkCells]]
  exact h2
/-- at the operation -/
theorem wpList_mksAppend {w : World} {ops : Array Oper} {rest : List Oper} {o : Oper} {a : Act} {Q : Exit → Act → World → Prop} (hgd : o.guard = none) (s x : Operand)
    (ho : o.op = .call { callee := .builtin .append, args := #[s, x], argTypes := #[34, 34] }) (B : Nat) (v u : Value) (xs ys : List MarkV) (hs : a.eval s = v) (hx : a.eval x = u)
    (hv : MkRow B w v xs) (hu : MarkSRd w u ys) (h0 : ys ≠ []) (hl : xs.length + ys.length ≤ 1000000) (hB : B ≤ w.heap.size)
    (h : ∀ g n c w', n = xs.length + ys.length → MkRow B w' (.slice (some ⟨g, 0, none⟩) n c) (xs ++ ys) → w.grownBy w' v.ownBlock → (v.ownBlock = some g ∨ g = w.heap.size) → wpList Tryz.prog ops Q rest (a.put o.dst (.slice (some ⟨g, 0, none⟩) n c)) w') : wpList Tryz.prog ops Q (o :: rest) a w := by
  obtain ⟨g, c, w', h1, h2, h3, h4⟩ := mksAppend_run B w v u xs ys hv hu h0 hl hB o.type
  refine wpList_plain hgd fun K hK => ?_
  unfold Oper.wp execOp
  simp only [ho, resolve, invoke, builtin, Sem.run_bind, Sem.run_pure, Result.andThen_ok, List.map_toArray, List.map_cons, List.map_nil, hs, hx, h1]
  exact hK _ _ (h g _ c w' rfl h2 h3 h4)
theorem run_app_none {P : Program} {w : World} (t ty e : TypeId) (i : TypeInfo) (size c : Nat) (ht : P.underlying t = some (.slice e)) (hi : P.info? e = some i) (b : Nat) :
    (Builtin.append_ #[t, t] ty #[.slice (some ⟨b, 0, none⟩) 0 0, .slice none 0 c]).run P w = .ok (.slice (some ⟨b, 0, none⟩) 0 0) w := by
  simp [Builtin.append_, run_underlying ht, sizeOf, typeInfo, hi, Builtin.lenOf, Builtin.firstCells, storeCells]
theorem run_app_zero {P : Program} {w : World} (t ty e : TypeId) (i : TypeInfo) (size c : Nat) (ad : Addr) (ht : P.underlying t = some (.slice e)) (hi : P.info? e = some i) (b : Nat) :
    (Builtin.append_ #[t, t] ty #[.slice (some ⟨b, 0, none⟩) 0 0, .slice (some ad) 0 c]).run P w = .ok (.slice (some ⟨b, 0, none⟩) 0 0) w := by
  simp [Builtin.append_, run_underlying ht, sizeOf, typeInfo, hi, Builtin.lenOf, Builtin.firstCells, storeCells, loadCells, loadCellsFrom]
/-- nothing is put behind an empty row -/
theorem wpList_mksAppend0 {w : World} {ops : Array Oper} {rest : List Oper} {o : Oper} {a : Act} {Q : Exit → Act → World → Prop} (hgd : o.guard = none) (s x : Operand)
    (ho : o.op = .call { callee := .builtin .append, args := #[s, x], argTypes := #[34, 34] }) (b : Nat) (au : Option Addr) (cu : Nat) (hs : a.eval s = .slice (some ⟨b, 0, none⟩) 0 0) (hx : a.eval x = .slice au 0 cu)
    (h : wpList Tryz.prog ops Q rest (a.put o.dst (.slice (some ⟨b, 0, none⟩) 0 0)) w) : wpList Tryz.prog ops Q (o :: rest) a w := by
  obtain ⟨i0, hi, hz0, hz1, hz2⟩ := info_parts1 infoMk
  have h1 : (Builtin.append_ #[34, 34] o.type #[.slice (some ⟨b, 0, none⟩) 0 0, .slice au 0 cu]).run Tryz.prog w = .ok (.slice (some ⟨b, 0, none⟩) 0 0) w := by
    cases au with
    | none => exact run_app_none _ _ _ i0 2 cu Tryz.underlying34 hi b
    | some ad => exact run_app_zero _ _ _ i0 2 cu ad Tryz.underlying34 hi b
  refine wpList_plain hgd fun K hK => ?_
  unfold Oper.wp execOp
  simp only [ho, resolve, invoke, builtin, Sem.run_bind, Sem.run_pure, Result.andThen_ok, List.map_toArray, List.map_cons, List.map_nil, hs, hx, h1]
  exact hK _ _ h
/-- an empty row, and one of one mark -/
theorem mkLit0 (w : World) (B : Nat) (hB : B ≤ w.heap.size) : MkRow B (w.alloc (.cells #[] 112)) (.slice (some ⟨w.heap.size, 0, none⟩) 0 0) [] :=
  World.ownsRow_lit (size := 2) w #[] 0 hB (by unfold maxLen; omega) rfl
end Go.Proofs.YtknkdbfgfcgkiaaGreatDoor
