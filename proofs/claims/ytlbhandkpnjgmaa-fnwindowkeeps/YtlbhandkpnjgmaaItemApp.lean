/-
  Rows of items that one may append to; a list of items copied by the specification.
-/
import Derived.Test.YtlbhandkpnjgmaaMksApp
import Derived.Test.YtlbhandkpnjgmaaMerged26
set_option linter.unusedVariables false
namespace Go.Proofs.Ytlbhandkpnjgmaa
open Go.RowKit Go.Maps Go.Deep

def itCells (xs : List (Int × Value)) : List Value := xs.flatMap fun x => [.int .i64 x.1, x.2]
theorem itCells_len (ns : List (Int × Value)) : (itCells ns).length = ns.length * 2 := by
  induction ns with
  | nil => rfl
  | cons x xs ih => simp [itCells] at ih ⊢; omega
theorem itCells_snoc (ns : List (Int × Value)) (x : Int × Value) : itCells (ns ++ [x]) = itCells ns ++ [.int .i64 x.1, x.2] := by simp [itCells]
theorem itCells_get (ns : List (Int × Value)) (i : Nat) (h : i < ns.length) : (itCells ns)[i * 2]? = some (.int .i64 ns[i].1) ∧ (itCells ns)[i * 2 + 1]? = some ns[i].2 := by
  induction ns generalizing i with
  | nil => simp at h
  | cons x xs ih =>
    cases i with
    | zero => simp [itCells]
    | succ i =>
      have := ih i (by simpa using h)
      have e : itCells (x :: xs) = [.int .i64 x.1, x.2] ++ itCells xs := by simp [itCells]
      rw [e, show (i + 1) * 2 = i * 2 + 1 + 1 by omega]
      simpa using this
/-- a row of items, at or above a block, that one may append to -/
def ItRow (B : Nat) (w : World) (v : Value) (xs : List (Int × Value)) : Prop := w.ownsRow B 30 2 v xs.length (itCells xs)
theorem ItRow.nil (B : Nat) (w : World) : ItRow B w (.slice none 0 0) [] := ⟨rfl, .inl ⟨rfl, rfl⟩⟩
theorem ItRow.slice {B : Nat} {w : World} {v : Value} {xs : List (Int × Value)} (h : ItRow B w v xs) : ∃ a c, v = .slice a xs.length c := by
  rcases h.2 with ⟨rfl, h0⟩ | ⟨g, cap, cur, rfl, _⟩
  · rw [h0]; exact ⟨_, _, rfl⟩
  · exact ⟨_, _, rfl⟩
theorem ItRow.ge {B : Nat} {w : World} {v : Value} {xs : List (Int × Value)} (h : ItRow B w v xs) : ∀ g, v.ownBlock = some g → B ≤ g := by
  intro g hg
  rcases h.2 with ⟨rfl, _⟩ | ⟨g', cap, cur, rfl, hB, _⟩
  · simp [Value.ownBlock] at hg
  · simp [Value.ownBlock] at hg; omega
theorem ItRow.lt {B : Nat} {w : World} {v : Value} {xs : List (Int × Value)} (h : ItRow B w v xs) : ∀ g, v.ownBlock = some g → g < w.heap.size := by
  intro g hg
  rcases h.2 with ⟨rfl, _⟩ | ⟨g', cap, cur, rfl, hB, hh, _⟩
  · simp [Value.ownBlock] at hg
  · simp [Value.ownBlock] at hg; rw [← hg]; exact (Array.getElem?_eq_some_iff.1 hh).1
theorem ItRow.keep {B : Nat} {w w' : World} {v : Value} {xs : List (Int × Value)} (h : ItRow B w v xs) (hk : ∀ g, v.ownBlock = some g → w'.heap[g]? = w.heap[g]?) : ItRow B w' v xs := by
  refine ⟨h.1, ?_⟩
  rcases h.2 with h0 | ⟨g, cap, cur, e, hB, hg, r⟩
  · exact .inl h0
  · exact .inr ⟨g, cap, cur, e, hB, (hk g (by rw [e]; rfl)).trans hg, r⟩
theorem ItRow.up {B : Nat} {w w' : World} {v : Value} {xs : List (Int × Value)} (h : ItRow B w v xs) (hb : Below w.heap.size w w') : ItRow B w' v xs := h.keep (fun g hg => hb.block g (h.lt g hg))
/-- a row of items and one of marks have blocks of two kinds -/
theorem ItRow.apart {B B' : Nat} {w : World} {v u : Value} {xs : List (Int × Value)} {ms : List MarkV} (h : ItRow B w v xs) (h' : MkRow B' w u ms) : ∀ k, u.ownBlock = some k → v.ownBlock ≠ some k := by
  intro k hk hv
  rcases h.2 with ⟨rfl, _⟩ | ⟨g, cap, cur, rfl, hB, hg, _⟩
  · simp [Value.ownBlock] at hv
  · rcases h'.2 with ⟨rfl, _⟩ | ⟨g', cap', cur', rfl, hB', hg', _⟩
    · simp [Value.ownBlock] at hk
    · simp [Value.ownBlock] at hk hv
      subst hk hv
      rw [hg] at hg'
      simp at hg'
/-- what the raw items stand for -/
def ItsAre (B : Nat) (w : World) (xs : List (Int × Value)) (ns : List ItemV) : Prop := xs.length = ns.length ∧ ∀ i (h : i < xs.length) (h' : i < ns.length), xs[i].1 = ns[i].a0 ∧ MkRow B w xs[i].2 ns[i].a1
theorem ItRow.rd {B : Nat} {w : World} {v : Value} {xs : List (Int × Value)} {ns : List ItemV} (h : ItRow B w v xs) (hx : ItsAre B w xs ns) : ItemSRd w v ns := by
  have hh : w.ownsRow B 30 2 v xs.length (itCells xs) := h
  rcases h with ⟨_, ⟨rfl, h0⟩ | ⟨g, cap, cur, rfl, hB, hg, hnc, _⟩⟩
  · have e : ns = [] := List.eq_nil_of_length_eq_zero (by rw [← hx.1]; exact h0)
    subst e
    exact ⟨none, 0, rfl, .inl rfl⟩
  · refine ⟨some ⟨g, 0, none⟩, cap, by rw [hx.1], .inr ⟨g, 0, rfl, (Array.getElem?_eq_some_iff.1 hg).1, fun i hi => ?_⟩⟩
    have hi' : i < xs.length := by rw [hx.1]; exact hi
    obtain ⟨e0, e1⟩ := itCells_get xs i hi'
    obtain ⟨f0, f1⟩ := hx.2 i hi' hi
    refine ⟨?_, xs[i].2, ?_, f1.rd⟩
    · rw [Nat.zero_add, hh.cellAt _ (by omega), ← f0]; exact e0
    · rw [Nat.zero_add, hh.cellAt _ (by omega)]; exact e1
theorem ItRow.one {B : Nat} {w : World} {v : Value} {z : Int} {q : Value} (h : ItRow B w v [(z, q)]) : ∃ ub c, v = .slice (some ⟨ub, 0, none⟩) 1 c ∧ w.cell? ⟨ub, 0, none⟩ = some (.int .i64 z) ∧ w.cell? ⟨ub, 1, none⟩ = some q := by
  have hh : w.ownsRow B 30 2 v 1 (itCells [(z, q)]) := h
  rcases h with ⟨_, ⟨rfl, h0⟩ | ⟨g, cap, cur, rfl, hB, hg, hnc, _⟩⟩
  · simp at h0
  · obtain ⟨e0, e1⟩ := itCells_get [(z, q)] 0 (by simp)
    refine ⟨g, cap, rfl, ?_, ?_⟩
    · exact (hh.cellAt 0 (by simp)).trans e0
    · exact (hh.cellAt 1 (by simp)).trans e1
theorem news_item {w : World} {g : Nat} {z : Int} {u : Value} (c0 : w.cell? ⟨g, 0, none⟩ = some (.int .i64 z)) (c1 : w.cell? ⟨g, 1, none⟩ = some u) : ∀ j x, ([.int .i64 z, u] : List Value)[j]? = some x → w.cell? ((⟨g, 0, none⟩ : Addr).add j) = some x := by
  intro j x hj
  match j, hj with
  | 0, hj => simp at hj; subst hj; simpa [Addr.add] using c0
  | 1, hj => simp at hj; subst hj; simpa [Addr.add] using c1
set_option maxHeartbeats 1600000 in
theorem l14Marks_any (ms : List MarkV) (v : Value) (w : World) (h0 : ms ≠ []) (hl : ms.length ≤ 1000000) (h : MarkSRd w v ms) :
    Calls Try.prog 23 #[v] w fun e w' => ∃ u, e = .returned u ∧ Hid (MkRow w.heap.size w' u ms) ∧ Below w.heap.size w w' := by
  have R0 := hide (mkLit0 w w.heap.size (Nat.le_refl _))
  have U := hide (h.up ((Below.refl _ _).alloc (Nat.le_refl _) (.cells #[] 76)))
  obtain ⟨a, n, c, rfl⟩ := h.form
  clear h
  go_enter Try.func23, Try.ntmps23
  go_wp2_with (first
    | (at_builtin; have _t := U; refine wpList_mksAppend rfl _ _ rfl w.heap.size _ _ [] ms rfl rfl (unhide R0) (unhide U) h0 (by simp; omega) (by simp) ?_; intro g1 n1 c1 w1 hn r1 g2 _; simp only [List.length_nil, Nat.zero_add] at hn; subst hn; simp only [List.nil_append] at r1; have R1 := hide r1; have B1 := hide ((Below.alloc (Below.refl w.heap.size w) (Nat.le_refl _) (.cells #[] 76)).grown g2 (by simp) (fun y hy => (unhide R0).ge y hy)); clear r1 g2 U)
    | fail)
  go_ret
  exact ⟨_, rfl, R1, unhide B1⟩
set_option maxHeartbeats 3200000 in
theorem l14Items_row (w : World) (b off cap : Nat) (ns : List ItemV) (hl : ns.length ≤ 8) (hm : ∀ x ∈ ns, x.a1 ≠ [] ∧ x.a1.length ≤ 1000000) (hb : b < w.heap.size) (hc : ItemAt w b off ns) :
    Calls Try.prog 21 #[.slice (some ⟨b, off, none⟩) ns.length cap] w fun e w' => ∃ u xs, e = .returned u ∧ Hid (ItRow w.heap.size w' u xs ∧ ItsAre w.heap.size w' xs ns) ∧ Below w.heap.size w w' := by
  have HC := hide (fun W (bW : Below w.heap.size w W) => hc.up hb bW)
  have HM := hide hm
  clear hc hm
  go_enter Try.func21, Try.ntmps21
  go_wp2_with fail
  go_loopw [3, 4] (fun v i wr => ∃ (k : Nat) (xs : List (Int × Value)), k ≤ ns.length ∧ i = .int .i64 k ∧ Hid (ItRow w.heap.size wr v xs) ∧ Hid (ItsAre w.heap.size wr xs (ns.take k)) ∧ Hid (Below w.heap.size w wr)) (fun _ i _ => ns.length - (intOf i).toNat)
  case atStart => exact ⟨0, [], Nat.zero_le _, rfl, ItRow.nil _ _, hide ⟨by simp, fun i h => by simp at h⟩, Below.refl _ _⟩
  case round =>
    obtain ⟨k, xs, hk, rfl, HR, HI, HBr⟩ := hrel
    obtain ⟨av, cv, hv⟩ := (unhide HR).slice
    have hxl : xs.length ≤ 8 := by rw [(unhide HI).1]; simp; omega
    subst hv
    by_cases hlt : k < ns.length
    · obtain ⟨c0, u1, c1, HU⟩ := unhide HC wr (unhide HBr) k hlt
      have HMK := hide (fun W (bW : Below wr.heap.size wr W) => l14Marks_any ns[k].a1 u1 W (unhide HM _ (List.getElem_mem hlt)).1 (unhide HM _ (List.getElem_mem hlt)).2 (HU.up bW))
      obtain ⟨ua, un, uc, rfl⟩ := HU.form
      clear HU
      have HS := hide (show ∀ X, Below w.heap.size w X → X.cell? ⟨b, off + k * 2, none⟩ = some (.int .i64 ns[k].a0) ∧ X.cell? ⟨b, off + k * 2 + 1, none⟩ = some (.slice ua un uc) from fun X bX => by
        exact ⟨(unhide HC X bX k hlt).1, (bX.cell (p := ⟨b, off + k * 2 + 1, none⟩) hb).trans (((unhide HBr).cell (p := ⟨b, off + k * 2 + 1, none⟩) hb).symm.trans c1)⟩)
      have HTK := hide (show ns.take (k + 1) = ns.take k ++ [ns[k]] from List.take_succ_eq_append_getElem hlt)
      obtain ⟨x, hx⟩ : ∃ x, ns[k] = x := ⟨_, rfl⟩
      simp only [hx] at c0 HMK HS HTK
      clear hx c0 c1
      obtain ⟨z, ms⟩ := x
      simp only at HMK HS HTK
      go_wp2_with fail
      have BD := hide (show Below wr.heap.size wr wr.drew from (Below.refl _ _).drew)
      have BW := hide (show Below w.heap.size w wr.drew from (unhide HBr).drew)
      have RW := hide (show ItRow w.heap.size wr.drew (.slice av xs.length cv) xs from (unhide HR).keep (fun _ _ => rfl))
      have IW := hide (show ItsAre w.heap.size wr.drew xs (ns.take k) from ⟨(unhide HI).1, fun i h h' => ⟨((unhide HI).2 i h h').1, ((unhide HI).2 i h h').2.keep (fun _ _ => rfl)⟩⟩)
      have hS := unhide HS _ (unhide BW)
      refine wp_region_held_drew (S := fun X : World => X.cell? ⟨b, off + k * 2, none⟩ = some (.int .i64 z) ∧ X.cell? ⟨b, off + k * 2 + 1, none⟩ = some (.slice ua un uc)) (by kernel_rfl) hS ?_
      clear hS
      intro hS
      generalize wr.drew = W at *
      refine wpAnyH_take (i := 0) (v := .slice av xs.length cv) rfl (by kernel_rfl) (by kernel_rfl) (by kernel_rfl) (fun _ _ _ h => h) (Or.inl ⟨by rfl, ?_⟩) hS ?_
      · intro X hX
        obtain ⟨h1, h2⟩ := hX
        clear hS
        go_simp
        try with_reducible rfl
      try simp [Act.put]
      refine wpAnyH_take (i := 1) (v := .slice (some ⟨b, off, none⟩) ns.length cap) rfl (by kernel_rfl) (by kernel_rfl) (by kernel_rfl) (fun _ _ _ h => h) (Or.inl ⟨by rfl, ?_⟩) hS ?_
      · intro X hX
        obtain ⟨h1, h2⟩ := hX
        clear hS
        go_simp
        try with_reducible rfl
      try simp [Act.put]
      refine wpAnyH_take (i := 2) (v := .int .i64 (k : Int)) rfl (by kernel_rfl) (by kernel_rfl) (by kernel_rfl) (fun _ _ _ h => h) (Or.inl ⟨by rfl, ?_⟩) hS ?_
      · intro X hX
        obtain ⟨h1, h2⟩ := hX
        clear hS
        go_simp
        try with_reducible rfl
      try simp [Act.put]
      refine wpAnyH_take (i := 3) (v := .pointer (some ⟨b, off + k * 2, none⟩)) rfl (by kernel_rfl) (by kernel_rfl) (by kernel_rfl) (fun _ _ _ h => h) (Or.inl ⟨by rfl, ?_⟩) hS ?_
      · intro X hX
        obtain ⟨h1, h2⟩ := hX
        clear hS
        go_simp
        try with_reducible rfl
      try simp [Act.put]
      refine wpAnyH_take (i := 4) (v := .pointer (some ⟨b, off + k * 2, none⟩)) rfl (by kernel_rfl) (by kernel_rfl) (by kernel_rfl) (fun _ _ _ h => h) (Or.inl ⟨by rfl, ?_⟩) hS ?_
      · intro X hX
        obtain ⟨h1, h2⟩ := hX
        clear hS
        go_simp
        try with_reducible rfl
      try simp [Act.put]
      refine wpAnyH_take (i := 5) (v := .int .i64 z) rfl (by kernel_rfl) (by kernel_rfl) (by kernel_rfl) (fun _ _ _ h => h) (Or.inl ⟨by rfl, ?_⟩) hS ?_
      · intro X hX
        obtain ⟨h1, h2⟩ := hX
        clear hS
        go_simp
        try with_reducible rfl
      try simp [Act.put]
      refine wpAnyH_take (i := 6) (v := .slice (some ⟨b, off, none⟩) ns.length cap) rfl (by kernel_rfl) (by kernel_rfl) (by kernel_rfl) (fun _ _ _ h => h) (Or.inl ⟨by rfl, ?_⟩) hS ?_
      · intro X hX
        obtain ⟨h1, h2⟩ := hX
        clear hS
        go_simp
        try with_reducible rfl
      try simp [Act.put]
      refine wpAnyH_take (i := 7) (v := .int .i64 (k : Int)) rfl (by kernel_rfl) (by kernel_rfl) (by kernel_rfl) (fun _ _ _ h => h) (Or.inl ⟨by rfl, ?_⟩) hS ?_
      · intro X hX
        obtain ⟨h1, h2⟩ := hX
        clear hS
        go_simp
        try with_reducible rfl
      try simp [Act.put]
      refine wpAnyH_take (i := 8) (v := .pointer (some ⟨b, off + k * 2, none⟩)) rfl (by kernel_rfl) (by kernel_rfl) (by kernel_rfl) (fun _ _ _ h => h) (Or.inl ⟨by rfl, ?_⟩) hS ?_
      · intro X hX
        obtain ⟨h1, h2⟩ := hX
        clear hS
        go_simp
        try with_reducible rfl
      try simp [Act.put]
      refine wpAnyH_take (i := 9) (v := .pointer (some ⟨b, off + k * 2 + 1, none⟩)) rfl (by kernel_rfl) (by kernel_rfl) (by kernel_rfl) (fun _ _ _ h => h) (Or.inl ⟨by rfl, ?_⟩) hS ?_
      · intro X hX
        obtain ⟨h1, h2⟩ := hX
        clear hS
        go_simp
        try with_reducible rfl
      try simp [Act.put]
      refine wpAnyH_take (i := 10) (v := .slice ua un uc) rfl (by kernel_rfl) (by kernel_rfl) (by kernel_rfl) (fun _ _ _ h => h) (Or.inl ⟨by rfl, ?_⟩) hS ?_
      · intro X hX
        obtain ⟨h1, h2⟩ := hX
        clear hS
        go_simp
        try with_reducible rfl
      try simp [Act.put]
      refine wpAnyH_ready (rs := [11]) (by kernel_rfl) (by simp) ?_
      refine AllReadyH.cons rfl (fun K hK => ?_) AllReadyH.nil
      go_simp
      go_wp2_with (go_at_call 23; refine (unhide HMK _ (unhide BD)).mono ?_; rintro e w1 ⟨y, rfl, Y1, b1⟩)
      obtain ⟨ya, yc, hy⟩ := MkRow.slice (unhide Y1)
      generalize hyn : ms.length = yn at hy
      subst hy
      clear hyn
      have B1 := hide ((unhide BW).trans (b1.mono (unhide BW).size))
      have R1 := hide ((unhide RW).up b1)
      have I1 := hide (show ItsAre w.heap.size w1 xs (ns.take k) from ⟨(unhide IW).1, fun i h h' => ⟨((unhide IW).2 i h h').1, ((unhide IW).2 i h h').2.up b1⟩⟩)
      have YW := hide (show MkRow w.heap.size w1 (.slice ya yn yc) ms from MkRow.mono (unhide Y1) (unhide BW).size)
      have bA : Below w1.heap.size w1 (w1.alloc (.cells #[.int .i64 z, .slice ya yn yc] 30)) := (Below.refl _ _).alloc (Nat.le_refl _) _
      have R2 := hide ((unhide R1).up bA)
      have I2 := hide (show ItsAre w.heap.size (w1.alloc (.cells #[.int .i64 z, .slice ya yn yc] 30)) xs (ns.take k) from ⟨(unhide I1).1, fun i h h' => ⟨((unhide I1).2 i h h').1, ((unhide I1).2 i h h').2.up bA⟩⟩)
      have Y2 := hide (MkRow.up (unhide YW) bA)
      have B2 := hide ((unhide B1).trans (bA.mono (unhide B1).size))
      have ca : (w1.alloc (.cells #[.int .i64 z, .slice ya yn yc] 30)).cell? ⟨w1.heap.size, 0, none⟩ = some (.int .i64 z) := World.cell?_alloc_at _ _ _ _ rfl
      have cb : (w1.alloc (.cells #[.int .i64 z, .slice ya yn yc] 30)).cell? ⟨w1.heap.size, 1, none⟩ = some (.slice ya yn yc) := World.cell?_alloc_at _ _ _ _ rfl
      refine hK.out _ _ (unhide HS _ (unhide B1)) ?_
      clear hK K b1 bA
      intro hS
      try simp [Act.put]
      refine wpAnyH_ready (rs := [12]) (by kernel_rfl) (by simp) ?_
      refine AllReadyH.cons rfl (fun K hK => ?_) AllReadyH.nil
      go_simp
      refine hK.out _ _ (hS) ?_
      clear hK K
      intro hS
      try simp [Act.put]
      refine wpAnyH_ready (rs := [13]) (by kernel_rfl) (by simp) ?_
      refine AllReadyH.cons rfl (fun K hK => ?_) AllReadyH.nil
      go_simp
      refine hK.out _ _ (unhide HS _ (unhide B2)) ?_
      clear hK K
      intro hS
      try simp [Act.put]
      refine wpAnyH_ready (rs := [14]) (by kernel_rfl) (by simp) ?_
      refine AllReadyH.cons rfl (fun K hK => ?_) AllReadyH.nil
      obtain ⟨i0, hi, hz0, hz1, hz2⟩ := info_parts1 infoItem
      refine step_append_lies _ (by rfl) (.tmp 11) (.tmp 24) 27 (by rfl) w.heap.size 30 i0 _ 2 32 Try.underlying27 hi hz0 hz1 hz2 rfl (by decide) (.slice av xs.length cv) xs.length (itCells xs) (by rfl) (unhide R2) ⟨w1.heap.size, 0, none⟩ 1 1 [.int .i64 z, .slice ya yn yc] (by rfl) rfl (news_item ca cb) (by intro u hu; simp at hu; rcases hu with rfl | rfl <;> rfl) (by decide) (by unfold maxLen; omega) (by omega) (unhide B2).size _ rfl ?_
      intro g2 c2 w3 hown hgrow hor hlt3
      have R3 := hide (show ItRow w.heap.size w3 (.slice (some ⟨g2, 0, none⟩) (xs.length + 1) c2) (xs ++ [(z, .slice ya yn yc)]) by
        unfold ItRow
        rw [itCells_snoc, List.length_append]
        exact hown)
      have B3 := hide ((unhide B2).grown hgrow (unhide B2).size (fun y hy => (unhide R2).ge y hy))
      have I3 := hide (show ItsAre w.heap.size w3 (xs ++ [(z, .slice ya yn yc)]) (ns.take (k + 1)) by
        have far : ∀ {u : Value} {q : List MarkV}, MkRow w.heap.size (w1.alloc (.cells #[.int .i64 z, .slice ya yn yc] 30)) u q → MkRow w.heap.size w3 u q := fun {u q} h => MkRow.keep h (fun g hg => hgrow.block g (MkRow.lt h g hg) (fun e => ItRow.apart (unhide R2) h g hg e.symm))
        rw [unhide HTK]
        have hlen := (unhide I2).1
        refine ⟨by rw [List.length_append, List.length_append, hlen]; rfl, fun i h h' => ?_⟩
        by_cases hi : i < xs.length
        · rw [List.getElem_append_left hi, List.getElem_append_left (by rw [← hlen]; exact hi)]
          exact ⟨((unhide I2).2 i hi (by rw [← hlen]; exact hi)).1, far ((unhide I2).2 i hi (by rw [← hlen]; exact hi)).2⟩
        · have e : i = xs.length := by rw [List.length_append] at h; simp at h; omega
          subst e
          rw [List.getElem_append_right (Nat.le_refl _), List.getElem_append_right (by omega)]
          simp only [Nat.sub_self, hlen, List.getElem_singleton]
          exact ⟨trivial, far (unhide Y2)⟩)
      refine hK.out _ _ (unhide HS w3 (unhide B3)) ?_
      clear hK K hown hgrow hor ca cb
      intro hS
      try simp [Act.put]
      refine wpAnyH_ready (rs := [15]) (by kernel_rfl) (by simp) ?_
      refine AllReadyH.cons rfl (fun K hK => ?_) AllReadyH.nil
      go_simp
      refine hK.out _ _ (hS) ?_
      clear hK K
      intro hS
      try simp [Act.put]
      refine wpAnyH_done (by kernel_rfl) ?_ _
      clear hS hxl
      generalize xs ++ [(z, .slice ya yn yc)] = xs' at *
      go_wp2_with fail
      go_roundw
      case rel => exact ⟨k + 1, xs', by omega, by go_num, R3, I3, B3⟩
      case measure => simp [intOf]; omega
    · have hke : k = ns.length := by omega
      have HQ := hide (show ItRow w.heap.size wr (.slice av xs.length cv) xs ∧ ItsAre w.heap.size wr xs ns by
        have h := unhide HI
        rw [hke, List.take_length] at h
        exact ⟨unhide HR, h⟩)
      clear hke
      go_wp2_with fail
      go_ret
      exact ⟨_, xs, rfl, HQ, unhide HBr⟩
end Go.Proofs.Ytlbhandkpnjgmaa
