/-
  DiskCut of the program: the closure that is attempted, the attempt, the face.
-/
import Derived.Test.YtddmomcanakoiaaAttempts
import Derived.Deep.RegionHeld3
set_option linter.unusedVariables false
namespace Go.Proofs.Ytddmomcanakoiaa
open Go.RowKit Go.Maps Go.Deep

theorem ByRow.prefix {B : Nat} {w : World} {a : Option Addr} {n c : Nat} {bs : List UInt8} (h : ByRow B w (.slice a n c) bs) (k : Nat) (hk : k ≤ bs.length) : ByRow B w (.slice a k c) (bs.take k) := by
  rcases h with ⟨hx, ⟨e, h0⟩ | ⟨g, cap, cur, e, hB, hg, hnc, hcm, hs, ht⟩⟩
  · simp only [Value.slice.injEq] at e
    obtain ⟨rfl, rfl, rfl⟩ := e
    have : bs = [] := List.eq_nil_of_length_eq_zero h0
    subst this
    have : k = 0 := by simpa using hk
    subst this
    exact ByRow.nil _ _
  · simp only [Value.slice.injEq] at e
    obtain ⟨rfl, rfl, rfl⟩ := e
    have hl : (bs.take k).length = k := by simp [Nat.min_eq_left hk]
    refine ⟨by simp, .inr ⟨g, c, cur, by rw [hl], hB, hg, by omega, hcm, hs, ?_⟩⟩
    rw [hl, List.map_take, ← ht, List.take_take]
    congr 1
    omega
theorem row_room {B : Nat} {w : World} {a : Option Addr} {n c : Nat} {bs : List UInt8} {k : Nat} (h : ByRow B w (.slice a n c) bs) (hk : (k : Int) ≤ (bs.length : Int)) : (k : Int) ≤ (c : Int) := by
  rcases h with ⟨hx, ⟨e, h0⟩ | ⟨g, cap, cur, e, hB, hg, hnc, hcm, hs, ht⟩⟩
  · simp only [Value.slice.injEq] at e
    omega
  · simp only [Value.slice.injEq] at e
    omega
def burnI (x : Int) : Int := if 0 < x then x - 1 else x
def cutD (d : DiskV) (at' : Nat) : DiskV := ⟨(d.safe ++ d.soft).take at', [], burnI d.fuse, d.down⟩
/-- the step that is done -/
theorem step_done (B : Nat) (w : World) (g gw : Nat) (v0 v1 : Value) (d : DiskV) (h : Drive B w g v0 v1 d) (hw : w.cell? ⟨gw, 0, none⟩ = some (.pointer (some ⟨g, 0, none⟩))) (hf : d.fuse ≠ 0) (hf1 : -1 ≤ d.fuse) (hf2 : d.fuse ≤ 400) :
    Calls Try.prog 78 #[.pointer (some ⟨gw, 0, none⟩)] w fun e w' => e = .returned (.tuple #[]) ∧ Hid (Drive B w' g v0 v1 { d with fuse := burnI d.fuse } ∧ Turn [g] w w') := by
  by_cases h0 : d.fuse = -1
  · refine (step_none B w g gw v0 v1 d h hw h0).mono ?_
    rintro e w' ⟨rfl, rfl⟩
    refine ⟨rfl, hide ⟨?_, Turn.refl _ _⟩⟩
    have : burnI d.fuse = d.fuse := by unfold burnI; rw [if_neg (by omega)]
    rw [this]
    exact h
  · refine (step_burn B w g gw v0 v1 d h hw (by omega) hf2).mono ?_
    rintro e w' ⟨rfl, rfl⟩
    have : burnI d.fuse = d.fuse - 1 := by unfold burnI; rw [if_pos (by omega)]
    rw [this]
    exact ⟨rfl, hide ⟨h.fuse _, (Turn.refl _ _).setCell (by simp) _ _⟩⟩
theorem cut_drive {B : Nat} {w1 w2 : World} {g : Nat} {v0 v1 : Value} {D : DiskV} {a : Option Addr} {k c : Nat} {bs : List UInt8} (h : Drive B w1 g v0 v1 D) (hB : B ≤ w1.heap.size) (b2 : Below w1.heap.size w1 w2) (r : ByRow w1.heap.size w2 (.slice a k c) bs) :
    Drive B ((w2.setCell ⟨g, 0, none⟩ (.slice a k c)).setCell ⟨g, 1, none⟩ (.slice none 0 0)) g (.slice a k c) (.slice none 0 0) ⟨bs, [], D.fuse, D.down⟩ ∧ Turn [g] w1 ((w2.setCell ⟨g, 0, none⟩ (.slice a k c)).setCell ⟨g, 1, none⟩ (.slice none 0 0)) := by
  have ht : Turn [g] w2 ((w2.setCell ⟨g, 0, none⟩ (.slice a k c)).setCell ⟨g, 1, none⟩ (.slice none 0 0)) := ((Turn.refl [g] w2).setCell (by simp) 0 _).setCell (by simp) 1 _
  have h2 := h.up b2
  have ne : ∀ (X : World) (i j : Nat) (v : Value), i ≠ j → (X.setCell ⟨g, j, none⟩ v).cell? ⟨g, i, none⟩ = X.cell? ⟨g, i, none⟩ := fun X i j v h => World.cell?_setCell_other _ _ _ _ (by intro e; have := congrArg Addr.off e; simp only at this; omega)
  have hg := h.lt
  have hk : ∀ x, (Value.slice a k c).ownBlock = some x → x ≠ g := fun x hx => by have := r.ge x hx; omega
  refine ⟨⟨h.le, Nat.lt_of_lt_of_le h2.lt ht.size, ?_, ?_, ?_, ?_, fun i hi => ?_, (r.mono hB).turn ht (fun x hx hm => hk x hx (by simpa using hm)), ByRow.nil _ _, hk, by simp [Value.ownBlock], by simp [Value.ownBlock]⟩, (Turn.of_below b2).trans ht⟩
  · rw [ne _ 0 1 _ (by omega)]; exact World.cell?_setCell_same _ _ _ h2.c0
  · exact World.cell?_setCell_same _ _ _ (by rw [ne _ 1 0 _ (by omega)]; exact h2.c1)
  · rw [ne _ 2 1 _ (by omega), ne _ 2 0 _ (by omega)]; exact h2.c2
  · rw [ne _ 3 1 _ (by omega), ne _ 3 0 _ (by omega)]; exact h2.c3
  · rw [World.frozen?_setCell, World.frozen?_setCell]; exact h2.soft i hi
set_option maxHeartbeats 6400000 in
theorem cutAct_gone (B : Nat) (w : World) (g gw p1 p2 : Nat) (v0 v1 : Value) (d : DiskV) (h : Drive B w g v0 v1 d) (hw : w.cell? ⟨gw, 0, none⟩ = some (.pointer (some ⟨g, 0, none⟩))) (hf : d.fuse = 0) :
    Calls Try.prog 70 #[.func (.func 78) #[] #[.pointer (some ⟨gw, 0, none⟩)], .pointer (some ⟨p1, 0, none⟩), .pointer (some ⟨p2, 0, none⟩)] w fun e w' => e = .panicked fallenChain ∧ w' = w := by
  have HS := hide (step_gone B w g gw v0 v1 d h hw hf)
  clear h hw hf
  go_enter Try.func70, Try.ntmps70
  go_wp2_with fail
  refine (unhide HS).mono ?_
  rintro e w' ⟨rfl, rfl⟩
  exact ⟨rfl, rfl, rfl⟩
set_option maxHeartbeats 6400000 in
theorem cutAct_done (B : Nat) (w : World) (g gw p1 p2 at' : Nat) (v0 v1 : Value) (d : DiskV) (hl : d.safe.length + d.soft.length ≤ 8000) (hB : B ≤ w.heap.size) (ha : at' ≤ d.safe.length + d.soft.length) (h : Drive B w g v0 v1 d) (hw : w.cell? ⟨gw, 0, none⟩ = some (.pointer (some ⟨g, 0, none⟩)))
    (hp1 : w.cell? ⟨p1, 0, none⟩ = some (.pointer (some ⟨g, 0, none⟩))) (hp2 : w.cell? ⟨p2, 0, none⟩ = some (.int .i64 (at' : Int))) (n1 : p1 ≠ g) (n2 : p2 ≠ g) (hf : d.fuse ≠ 0) (hf1 : -1 ≤ d.fuse) (hf2 : d.fuse ≤ 400) :
    Calls Try.prog 70 #[.func (.func 78) #[] #[.pointer (some ⟨gw, 0, none⟩)], .pointer (some ⟨p1, 0, none⟩), .pointer (some ⟨p2, 0, none⟩)] w fun e w' => e = .returned (.tuple #[]) ∧ Hid (∃ v, Drive B w' g v (.slice none 0 0) (cutD d at') ∧ Turn [g] w w' ∧ ∀ k, v.ownBlock = some k → w.heap.size ≤ k) := by
  have HS := hide (step_done B w g gw v0 v1 d h hw hf hf1 hf2)
  have hz1 := lt_of_cell0 hp1
  have hz2 := lt_of_cell0 hp2
  have HP1 := hide (show ∀ X, Turn [g] w X → X.cell? ⟨p1, 0, none⟩ = some (.pointer (some ⟨g, 0, none⟩)) from fun X t => (t.cell hz1 (by simpa using n1)).trans hp1)
  have HP2 := hide (show ∀ X, Turn [g] w X → X.cell? ⟨p2, 0, none⟩ = some (.int .i64 (at' : Int)) from fun X t => (t.cell hz2 (by simpa using n2)).trans hp2)
  clear h hw hp1 hp2
  go_enter Try.func70, Try.ntmps70
  go_wp2_with fail
  refine (unhide HS).mono ?_
  rintro e w1 ⟨rfl, P1⟩
  have D1 := hide (unhide P1).1
  have T1 := hide (unhide P1).2
  have q1 := unhide HP1 w1 (unhide T1)
  have q2 := unhide HP2 w1 (unhide T1)
  obtain ⟨a0, e0, hv0⟩ := (unhide D1).r0.slice
  obtain ⟨a1, e1, hv1⟩ := (unhide D1).r1.slice
  subst hv0 hv1
  have c0 := (unhide D1).c0
  have c1 := (unhide D1).c1
  have c2 := (unhide D1).c2
  have c3 := (unhide D1).c3
  have HALL := hide (fun W (hW : Below w1.heap.size w1 W) => all_any { d with fuse := burnI d.fuse } (.agg #[.slice a0 d.safe.length e0, .slice a1 d.soft.length e1, .int .i64 (burnI d.fuse), .bool d.down]) W (by simp only; omega) ⟨_, _, rfl, (unhide D1).r0.rd.up hW, (unhide D1).r1.rd.up hW⟩)
  have HGZ := hide (show ∀ X, Below w1.heap.size w1 X → (X.cell? ⟨p1, 0, none⟩ = some (.pointer (some ⟨g, 0, none⟩)) ∧ X.cell? ⟨p2, 0, none⟩ = some (.int .i64 (at' : Int))) ∧ (∃ x, X.cell? ⟨g, 0, none⟩ = some x) ∧ (∃ x, X.cell? ⟨g, 1, none⟩ = some x) ∧ X.frozen? ⟨g, 0, none⟩ = false ∧ X.frozen? ⟨g, 1, none⟩ = false from fun X bx => by
    have D := (unhide D1).up bx
    have t := (unhide T1).trans (Turn.of_below bx)
    exact ⟨⟨unhide HP1 X t, unhide HP2 X t⟩, ⟨_, D.c0⟩, ⟨_, D.c1⟩, D.soft 0 (by omega), D.soft 1 (by omega)⟩)
  have BD := hide (show Below w1.heap.size w1 w1.drew from (Below.refl _ _).drew)
  have hat : (at' : Int) ≤ ((d.safe ++ d.soft).length : Int) := by rw [List.length_append]; omega
  have HCF : ∀ w : World, (callFunc 42 #[.agg #[.slice a0 d.safe.length e0, .slice a1 d.soft.length e1, .int .i64 (burnI d.fuse), .bool d.down]]).run Try.prog w = .ok (.enter 42 #[.agg #[.slice a0 d.safe.length e0, .slice a1 d.soft.length e1, .int .i64 (burnI d.fuse), .bool d.down]]) w := fun w => by kernel_rfl
  have KS := hide (show ∀ (X : World) (i : Nat) (v : Value), (X.cell? ⟨p1, 0, none⟩ = some (.pointer (some ⟨g, 0, none⟩)) ∧ X.cell? ⟨p2, 0, none⟩ = some (.int .i64 (at' : Int))) → ((X.setCell ⟨g, i, none⟩ v).cell? ⟨p1, 0, none⟩ = some (.pointer (some ⟨g, 0, none⟩)) ∧ (X.setCell ⟨g, i, none⟩ v).cell? ⟨p2, 0, none⟩ = some (.int .i64 (at' : Int))) from fun X i v hX =>
    ⟨(World.cell?_setCell_other _ _ _ _ (by intro e; exact n1 (congrArg Addr.block e).symm)).trans hX.1, (World.cell?_setCell_other _ _ _ _ (by intro e; exact n2 (congrArg Addr.block e).symm)).trans hX.2⟩)
  have KB := hide (show ∀ X, Below w1.heap.size w1 X → (X.cell? ⟨p1, 0, none⟩ = some (.pointer (some ⟨g, 0, none⟩)) ∧ X.cell? ⟨p2, 0, none⟩ = some (.int .i64 (at' : Int))) from fun X bx => (unhide HGZ X bx).1)
  clear P1 HS
  go_wp2_with fail
  have hS : w1.drew.cell? ⟨p1, 0, none⟩ = some (.pointer (some ⟨g, 0, none⟩)) ∧ w1.drew.cell? ⟨p2, 0, none⟩ = some (.int .i64 (at' : Int)) := ⟨q1, q2⟩
  refine wp_region_held_drew (S := fun X : World => X.cell? ⟨p1, 0, none⟩ = some (.pointer (some ⟨g, 0, none⟩)) ∧ X.cell? ⟨p2, 0, none⟩ = some (.int .i64 (at' : Int))) (by kernel_rfl) hS ?_
  intro hS
  refine wpAnyH_take (i := 0) (v := .pointer (some ⟨g, 0, none⟩)) rfl (by kernel_rfl) (by kernel_rfl) (by kernel_rfl) (fun _ _ _ h => h) (Or.inl ⟨by rfl, ?_⟩) hS ?_
  · intro X hX
    obtain ⟨h1, h2⟩ := hX
    clear hS
    go_simp
    try with_reducible rfl
  try simp [Act.put]
  refine wpAnyH_take (i := 1) (v := .pointer (some ⟨g, 0, none⟩)) rfl (by kernel_rfl) (by kernel_rfl) (by kernel_rfl) (fun _ _ _ h => h) (Or.inl ⟨by rfl, ?_⟩) hS ?_
  · intro X hX
    obtain ⟨h1, h2⟩ := hX
    clear hS
    go_simp
    try with_reducible rfl
  try simp [Act.put]
  refine wpAnyH_take (i := 2) (v := .pointer (some ⟨g, 0, none⟩)) rfl (by kernel_rfl) (by kernel_rfl) (by kernel_rfl) (fun _ _ _ h => h) (Or.inl ⟨by rfl, ?_⟩) hS ?_
  · intro X hX
    obtain ⟨h1, h2⟩ := hX
    clear hS
    go_simp
    try with_reducible rfl
  try simp [Act.put]
  refine wpAnyH_take (i := 3) (v := .pointer (some ⟨g, 0, none⟩)) rfl (by kernel_rfl) (by kernel_rfl) (by kernel_rfl) (fun _ _ _ h => h) (Or.inl ⟨by rfl, ?_⟩) hS ?_
  · intro X hX
    obtain ⟨h1, h2⟩ := hX
    clear hS
    go_simp
    try with_reducible rfl
  try simp [Act.put]
  refine wpAnyH_take (i := 4) (v := .pointer (some ⟨g, 0, none⟩)) rfl (by kernel_rfl) (by kernel_rfl) (by kernel_rfl) (fun _ _ _ h => h) (Or.inl ⟨by rfl, ?_⟩) hS ?_
  · intro X hX
    obtain ⟨h1, h2⟩ := hX
    clear hS
    go_simp
    try with_reducible rfl
  try simp [Act.put]
  refine wpAnyH_take (i := 7) (v := .int .i64 (at' : Int)) rfl (by kernel_rfl) (by kernel_rfl) (by kernel_rfl) (fun _ _ _ h => h) (Or.inl ⟨by rfl, ?_⟩) hS ?_
  · intro X hX
    obtain ⟨h1, h2⟩ := hX
    clear hS
    go_simp
    try with_reducible rfl
  try simp [Act.put]
  refine wpAnyH_ready (rs := [5]) (by kernel_rfl) (by simp) ?_
  refine AllReadyH.cons rfl (fun K hK => ?_) AllReadyH.nil
  go_simp
  refine hK.out _ _ hS ?_
  clear hK K
  intro hS
  try simp [Act.put]
  refine wpAnyH_ready (rs := [6]) (by kernel_rfl) (by simp) ?_
  refine AllReadyH.cons rfl (fun K hK => ?_) AllReadyH.nil
  go_simp
  go_wp2_with (go_at_call 42; refine (unhide HALL _ (unhide BD)).mono ?_; rintro e w2 ⟨a2, n2, c2', rfl, hn2, r2, b2⟩; have B2 := hide ((unhide BD).trans (b2.mono (unhide BD).size)); obtain ⟨⟨y1, y2⟩, ⟨z0, y3⟩, ⟨z1, y4⟩, y5, y6⟩ := unhide HGZ w2 (unhide B2); have hcc : (at' : Int) ≤ (c2' : Int) := row_room r2 hat; have R2 := hide r2; clear r2 b2)
  refine hK.out _ _ ⟨y1, y2⟩ ?_
  clear hK K
  intro hS
  try simp [Act.put]
  have hcn : at' ≤ c2' := by omega
  refine wpAnyH_ready (rs := [8]) (by kernel_rfl) (by simp) ?_
  refine AllReadyH.cons rfl (fun K hK => ?_) AllReadyH.nil
  go_simp
  refine hK.out _ _ hS ?_
  clear hK K
  intro hS
  try simp [Act.put]
  refine wpAnyH_ready (rs := [9]) (by kernel_rfl) (by simp) ?_
  refine AllReadyH.cons rfl (fun K hK => ?_) AllReadyH.nil
  go_simp
  refine hK.out _ _ hS ?_
  clear hK K
  intro hS
  try simp [Act.put]
  refine wpAnyH_ready (rs := [10]) (by kernel_rfl) (by simp) ?_
  refine AllReadyH.cons rfl (fun K hK => ?_) AllReadyH.nil
  go_simp
  refine hK.out _ _ hS ?_
  clear hK K
  intro hS
  try simp [Act.put]
  refine wpAnyH_ready (rs := [11]) (by kernel_rfl) (by simp) ?_
  refine AllReadyH.cons rfl (fun K hK => ?_) AllReadyH.nil
  go_simp
  refine hK.out _ _ hS ?_
  clear hK K
  intro hS
  try simp [Act.put]
  refine wpAnyH_ready (rs := [12]) (by kernel_rfl) (by simp) ?_
  refine AllReadyH.cons rfl (fun K hK => ?_) AllReadyH.nil
  go_simp
  refine hK.out _ _ (unhide KS _ _ _ hS) ?_
  clear hK K
  intro hS
  try simp [Act.put]
  refine wpAnyH_ready (rs := [13]) (by kernel_rfl) (by simp) ?_
  refine AllReadyH.cons rfl (fun K hK => ?_) AllReadyH.nil
  go_simp
  refine hK.out _ _ hS ?_
  clear hK K
  intro hS
  try simp [Act.put]
  refine wpAnyH_ready (rs := [14]) (by kernel_rfl) (by simp) ?_
  refine AllReadyH.cons rfl (fun K hK => ?_) AllReadyH.nil
  go_simp
  refine hK.out _ _ hS ?_
  clear hK K
  intro hS
  try simp [Act.put]
  refine wpAnyH_ready (rs := [15]) (by kernel_rfl) (by simp) ?_
  refine AllReadyH.cons rfl (fun K hK => ?_) AllReadyH.nil
  go_simp
  refine hK.out _ _ hS ?_
  clear hK K
  intro hS
  try simp [Act.put]
  refine wpAnyH_ready (rs := [16]) (by kernel_rfl) (by simp) ?_
  refine AllReadyH.cons rfl (fun K hK => ?_) AllReadyH.nil
  go_simp
  refine hK.out _ _ (unhide KS _ _ _ hS) ?_
  clear hK K
  intro hS
  try simp [Act.put]
  refine wpAnyH_done (by kernel_rfl) ?_ _
  have HPP := hide (cut_drive (unhide D1) (Nat.le_trans hB (unhide T1).size) (unhide B2) ((unhide R2).prefix at' (by omega)))
  go_end0
  exact ⟨rfl, hide ⟨_, (unhide HPP).1, (unhide T1).trans (unhide HPP).2, fun k hk => Nat.le_trans (unhide T1).size (((unhide R2).prefix at' (by omega)).ge k hk)⟩⟩
end Go.Proofs.Ytddmomcanakoiaa
