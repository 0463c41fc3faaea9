/-
  How the specification spoils one list of nodes in ten.
-/
import Derived.Test.YtkfhokeoooafnaaGreatDoorMerged8
import Derived.Deep.RegionWith
import Derived.Deep.RegionHeld3
import Derived.Deep.AppendLies
namespace Go.Proofs.YtkfhokeoooafnaaGreatDoor
open Go.RowKit Go.Maps Go.Deep

/-- some list of nodes comes back, in memory of the call's own -/
def RetSpoil (base g p K : Nat) (S : List Nat) (w : World) (e : Ending) (w' : World) : Prop :=
  ∃ k cap ns, e = .returned (.slice (some ⟨k, 0, none⟩) ns.length cap) ∧ NodesAt w' k 0 ns ∧ ns.length ≤ cap ∧ k < w'.heap.size ∧ base ≤ k ∧ ns.length ≤ K ∧ ShortNames ns ∧ Turn S w w' ∧ ∃ q, p ≤ q ∧ q ≤ p + 10 ∧ RdIn base w' g q

theorem nodesAt_store {w : World} {k : Nat} {ns : List NodeV} (h : NodesAt w k 0 ns) (j : Nat) (x : NodeV) :
    NodesAt ((((w.setCell ⟨k, j * 4, none⟩ (.int .i64 x.kind)).setCell ⟨k, j * 4 + 1, none⟩ (.int .i64 x.num)).setCell ⟨k, j * 4 + 2, none⟩ (.string x.name)).setCell ⟨k, j * 4 + 3, none⟩ (.int .i64 x.kids)) k 0 (ns.set j x) := by
  intro i hi
  have hi' : i < ns.length := by simpa using hi
  obtain ⟨a, b, c, d⟩ := h i hi'
  rw [Nat.zero_add] at a b c d ⊢
  by_cases e : i = j
  · subst e
    simp only [List.getElem_set_self]
    refine ⟨?_, ?_, ?_, ?_⟩
    · rw [World.cell?_setCell_other _ _ _ _ (by simp), World.cell?_setCell_other _ _ _ _ (by simp), World.cell?_setCell_other _ _ _ _ (by simp), World.cell?_setCell_same _ _ _ a]
    · rw [World.cell?_setCell_other _ _ _ _ (by simp), World.cell?_setCell_other _ _ _ _ (by simp)]
      exact World.cell?_setCell_same _ _ _ ((World.cell?_setCell_other _ _ _ _ (by simp)).trans b)
    · rw [World.cell?_setCell_other _ _ _ _ (by simp)]
      exact World.cell?_setCell_same _ _ _ ((World.cell?_setCell_other _ _ _ _ (by simp)).trans ((World.cell?_setCell_other _ _ _ _ (by simp)).trans c))
    · exact World.cell?_setCell_same _ _ _ ((World.cell?_setCell_other _ _ _ _ (by simp)).trans ((World.cell?_setCell_other _ _ _ _ (by simp)).trans ((World.cell?_setCell_other _ _ _ _ (by simp)).trans d)))
  · rw [List.getElem_set_ne (fun e' => e e'.symm)]
    have far : ∀ (s t : Nat), s < 4 → t < 4 → j * 4 + s ≠ i * 4 + t := by intro s t hs ht he; omega
    have fa : ∀ (o o' : Nat), o ≠ o' → (⟨k, o, none⟩ : Addr) ≠ ⟨k, o', none⟩ := fun o o' h he => h (congrArg Addr.off he)
    refine ⟨?_, ?_, ?_, ?_⟩
    · rw [World.cell?_setCell_other _ _ _ _ (fa (j * 4 + 3) (i * 4) (far 3 0 (by omega) (by omega))), World.cell?_setCell_other _ _ _ _ (fa (j * 4 + 2) (i * 4) (far 2 0 (by omega) (by omega))), World.cell?_setCell_other _ _ _ _ (fa (j * 4 + 1) (i * 4) (far 1 0 (by omega) (by omega))), World.cell?_setCell_other _ _ _ _ (fa (j * 4) (i * 4) (far 0 0 (by omega) (by omega)))]; exact a
    · rw [World.cell?_setCell_other _ _ _ _ (fa (j * 4 + 3) (i * 4 + 1) (far 3 1 (by omega) (by omega))), World.cell?_setCell_other _ _ _ _ (fa (j * 4 + 2) (i * 4 + 1) (far 2 1 (by omega) (by omega))), World.cell?_setCell_other _ _ _ _ (fa (j * 4 + 1) (i * 4 + 1) (far 1 1 (by omega) (by omega))), World.cell?_setCell_other _ _ _ _ (fa (j * 4) (i * 4 + 1) (far 0 1 (by omega) (by omega)))]; exact b
    · rw [World.cell?_setCell_other _ _ _ _ (fa (j * 4 + 3) (i * 4 + 2) (far 3 2 (by omega) (by omega))), World.cell?_setCell_other _ _ _ _ (fa (j * 4 + 2) (i * 4 + 2) (far 2 2 (by omega) (by omega))), World.cell?_setCell_other _ _ _ _ (fa (j * 4 + 1) (i * 4 + 2) (far 1 2 (by omega) (by omega))), World.cell?_setCell_other _ _ _ _ (fa (j * 4) (i * 4 + 2) (far 0 2 (by omega) (by omega)))]; exact c
    · rw [World.cell?_setCell_other _ _ _ _ (fa (j * 4 + 3) (i * 4 + 3) (far 3 3 (by omega) (by omega))), World.cell?_setCell_other _ _ _ _ (fa (j * 4 + 2) (i * 4 + 3) (far 2 3 (by omega) (by omega))), World.cell?_setCell_other _ _ _ _ (fa (j * 4 + 1) (i * 4 + 3) (far 1 3 (by omega) (by omega))), World.cell?_setCell_other _ _ _ _ (fa (j * 4) (i * 4 + 3) (far 0 3 (by omega) (by omega)))]; exact d
theorem short_set {ns : List NodeV} (h : ShortNames ns) (j : Nat) (x : NodeV) (hx : x.name.size ≤ 16) : ShortNames (ns.set j x) := by
  intro n hn
  rcases List.mem_or_eq_of_mem_set hn with h1 | h1
  · exact h n h1
  · subst h1; exact hx
theorem short_take {ns : List NodeV} (h : ShortNames ns) (j : Nat) : ShortNames (ns.take j) := fun n hn => h n (List.mem_of_mem_take hn)
theorem nodesAt_take {w : World} {k : Nat} {ns : List NodeV} (h : NodesAt w k 0 ns) (j : Nat) : NodesAt w k 0 (ns.take j) := by
  intro i hi
  have hi' : i < ns.length := by simp at hi; omega
  rw [List.getElem_take]
  exact h i hi'

/-- a node's own block, that may be written -/
def NodeBox (w : World) (b : Nat) (x : NodeV) : Prop := NodeCell w b x ∧ ∀ i, w.frozen? ⟨b, i, none⟩ = false
theorem NodeBox.turn {w w' : World} {b : Nat} {x : NodeV} {S : List Nat} (h : NodeBox w b x) (ht : Turn S w w') (hb : b ∉ S) : NodeBox w' b x :=
  ⟨h.1.turn ht hb, fun i => (ht.frozen h.1.1 hb).trans (h.2 i)⟩
theorem NodeBox.new (w : World) (x : NodeV) : NodeBox (w.alloc (.cells #[.int .i64 x.kind, .int .i64 x.num, .string x.name, .int .i64 x.kids] 51)) w.heap.size x :=
  ⟨NodeCell.new w x, fun _ => World.frozen?_alloc_at _ _ _ _ rfl⟩
theorem NodeBox.setCells {w : World} {b : Nat} {x y : NodeV} {i : Nat} {v : Value} (h : NodeBox w b x) (e : NodesAt (w.setCell ⟨b, i, none⟩ v) b 0 [y]) : NodeBox (w.setCell ⟨b, i, none⟩ v) b y :=
  ⟨⟨by simpa using h.1.1, e⟩, fun j => by rw [World.frozen?_setCell]; exact h.2 j⟩
theorem nodesAt_one {w : World} {b : Nat} {y : NodeV} (h0 : w.cell? ⟨b, 0, none⟩ = some (.int .i64 y.kind)) (h1 : w.cell? ⟨b, 1, none⟩ = some (.int .i64 y.num)) (h2 : w.cell? ⟨b, 2, none⟩ = some (.string y.name)) (h3 : w.cell? ⟨b, 3, none⟩ = some (.int .i64 y.kids)) : NodesAt w b 0 [y] := by
  intro i hi
  have : i = 0 := by simpa using hi
  subst this
  exact ⟨h0, h1, h2, h3⟩
theorem NodeBox.setKids {w : World} {b : Nat} {x : NodeV} (h : NodeBox w b x) (v : Int) : NodeBox (w.setCell ⟨b, 3, none⟩ (.int .i64 v)) b ⟨x.kind, x.num, x.name, v⟩ := by
  obtain ⟨a0, a1, a2, a3⟩ := h.1.cells
  exact h.setCells (nodesAt_one (by rw [World.cell?_setCell_other _ _ _ _ (by simp)]; exact a0) (by rw [World.cell?_setCell_other _ _ _ _ (by simp)]; exact a1) (by rw [World.cell?_setCell_other _ _ _ _ (by simp)]; exact a2) (World.cell?_setCell_same _ _ _ a3))
theorem NodeBox.setKind {w : World} {b : Nat} {x : NodeV} (h : NodeBox w b x) (v : Int) : NodeBox (w.setCell ⟨b, 0, none⟩ (.int .i64 v)) b ⟨v, x.num, x.name, x.kids⟩ := by
  obtain ⟨a0, a1, a2, a3⟩ := h.1.cells
  exact h.setCells (nodesAt_one (World.cell?_setCell_same _ _ _ a0) (by rw [World.cell?_setCell_other _ _ _ _ (by simp)]; exact a1) (by rw [World.cell?_setCell_other _ _ _ _ (by simp)]; exact a2) (by rw [World.cell?_setCell_other _ _ _ _ (by simp)]; exact a3))
theorem NodeBox.setNum {w : World} {b : Nat} {x : NodeV} (h : NodeBox w b x) (v : Int) : NodeBox (w.setCell ⟨b, 1, none⟩ (.int .i64 v)) b ⟨x.kind, v, x.name, x.kids⟩ := by
  obtain ⟨a0, a1, a2, a3⟩ := h.1.cells
  exact h.setCells (nodesAt_one (by rw [World.cell?_setCell_other _ _ _ _ (by simp)]; exact a0) (World.cell?_setCell_same _ _ _ a1) (by rw [World.cell?_setCell_other _ _ _ _ (by simp)]; exact a2) (by rw [World.cell?_setCell_other _ _ _ _ (by simp)]; exact a3))
theorem NodeBox.setName {w : World} {b : Nat} {x : NodeV} (h : NodeBox w b x) (v : ByteArray) : NodeBox (w.setCell ⟨b, 2, none⟩ (.string v)) b ⟨x.kind, x.num, v, x.kids⟩ := by
  obtain ⟨a0, a1, a2, a3⟩ := h.1.cells
  exact h.setCells (nodesAt_one (by rw [World.cell?_setCell_other _ _ _ _ (by simp)]; exact a0) (by rw [World.cell?_setCell_other _ _ _ _ (by simp)]; exact a1) (World.cell?_setCell_same _ _ _ a2) (by rw [World.cell?_setCell_other _ _ _ _ (by simp)]; exact a3))
/-- a row of the call's own may be written -/
theorem NodeRow.soft {B : Nat} {w : World} {k cap : Nat} {ns : List NodeV} (h : NodeRow B w k cap ns) (i : Nat) : w.frozen? ⟨k, i, none⟩ = false := by
  rcases h.2 with ⟨h', _⟩ | ⟨g', cap', cur, h', h1, h2, h3⟩
  · simp at h'
  · simp only [Value.slice.injEq, Option.some.injEq, Addr.mk.injEq, and_true, true_and] at h'
    obtain ⟨rfl, rfl⟩ := h'
    simp [World.frozen?, h2]
theorem NodeRow.room {B : Nat} {w : World} {k cap : Nat} {ns : List NodeV} (h : NodeRow B w k cap ns) : ns.length ≤ cap := by
  rcases h.2 with ⟨h', _⟩ | ⟨g', cap', cur, h', h1, h2, h3, _⟩
  · simp at h'
  · simp only [Value.slice.injEq, Option.some.injEq, Addr.mk.injEq, and_true, true_and] at h'
    obtain ⟨rfl, rfl⟩ := h'
    exact h3
theorem owns_turn {B e size k n cap : Nat} {xs : List Value} {w w' : World} {S : List Nat} (h : w.ownsRow B e size (.slice (some ⟨k, 0, none⟩) n cap) n xs) (ht : Turn S w w') (hk : k ∉ S) : w'.ownsRow B e size (.slice (some ⟨k, 0, none⟩) n cap) n xs := by
  refine ⟨h.1, ?_⟩
  rcases h.2 with ⟨h', _⟩ | ⟨g', cap', cur, h', h1, h2, h3⟩
  · simp at h'
  · refine .inr ⟨g', cap', cur, h', h1, ?_, h3⟩
    simp only [Value.slice.injEq, Option.some.injEq, Addr.mk.injEq, and_true, true_and] at h'
    obtain ⟨rfl, rfl⟩ := h'
    rw [ht.block k (Array.getElem?_eq_some_iff.1 h2).1 hk]; exact h2
theorem keep4 {w3 W : World} {b : Nat} {x : NodeV} (hb : b < w3.heap.size) (d0 : w3.cell? ⟨b, 0, none⟩ = some (.int .i64 x.kind)) (d1 : w3.cell? ⟨b, 1, none⟩ = some (.int .i64 x.num)) (d2 : w3.cell? ⟨b, 2, none⟩ = some (.string x.name)) (d3 : w3.cell? ⟨b, 3, none⟩ = some (.int .i64 x.kids)) (h : Turn [] w3 W) :
    W.cell? ⟨b, 0, none⟩ = some (.int .i64 x.kind) ∧ W.cell? ⟨b, 1, none⟩ = some (.int .i64 x.num) ∧ W.cell? ⟨b, 2, none⟩ = some (.string x.name) ∧ W.cell? ⟨b, 3, none⟩ = some (.int .i64 x.kids) :=
  ⟨(h.cell hb (by simp)).trans d0, (h.cell hb (by simp)).trans d1, (h.cell hb (by simp)).trans d2, (h.cell hb (by simp)).trans d3⟩
theorem spoil_app {base g p q B0 k k2 cap2 : Nat} {ns : List NodeV} {w w3 W : World} {x : NodeV} (hT : Turn [g, k] w w3) (hT2 : Turn [] w3 W) (hown : W.ownsRow B0 51 4 (.slice (some ⟨k2, 0, none⟩) (ns.length + 1) cap2) (ns.length + 1) (cellsL ns ++ cellsL [x])) (hR : RdIn base w3 g q) (hq1 : p ≤ q) (hq2 : q ≤ p + 10) (hx : x.name.size ≤ 16) (hsn : ShortNames ns) (hB : base ≤ B0) :
    RetSpoil base g p (ns.length + 1) [g, k] w (.returned (.slice (some ⟨k2, 0, none⟩) (ns.length + 1) cap2)) W := by
  rw [← cellsL_app] at hown
  have hl : (ns ++ [x]).length = ns.length + 1 := by simp
  have hrow : NodeRow B0 W k2 cap2 (ns ++ [x]) := by unfold NodeRow; rw [hl]; exact hown
  have hb := hrow.block
  exact ⟨k2, cap2, ns ++ [x], by rw [hl], hrow.nodesAt, hrow.room, hb.2, by omega, by omega, short_app hsn (short_one x hx), hT.trans (hT2.mono (by simp)), q, hq1, hq2, hR.turn hT2 (by simp) (by simp)⟩
theorem Turn.drew {S : List Nat} {a b : World} (h : Turn S a b) : Turn S a b.drew := h.dn 1
theorem spoil_post {base g p q B k cap j : Nat} {ns : List NodeV} {w W : World} {x : NodeV} (hT : Turn [g, k] w W) (hrow : NodeRow B W k cap ns) (hR : RdIn base W g q) (hq1 : p ≤ q) (hq2 : q ≤ p + 10) (hx : x.name.size ≤ 16) (hsn : ShortNames ns) (hB : base ≤ B) (hkg : k ≠ g) :
    RetSpoil base g p (ns.length + 1) [g, k] w (.returned (.slice (some ⟨k, 0, none⟩) ns.length cap))
      ((((W.setCell ⟨k, j * 4, none⟩ (.int .i64 x.kind)).setCell ⟨k, j * 4 + 1, none⟩ (.int .i64 x.num)).setCell ⟨k, j * 4 + 2, none⟩ (.string x.name)).setCell ⟨k, j * 4 + 3, none⟩ (.int .i64 x.kids)) := by
  have hkb := hrow.block
  have hT2 : Turn [k] W ((((W.setCell ⟨k, j * 4, none⟩ (.int .i64 x.kind)).setCell ⟨k, j * 4 + 1, none⟩ (.int .i64 x.num)).setCell ⟨k, j * 4 + 2, none⟩ (.string x.name)).setCell ⟨k, j * 4 + 3, none⟩ (.int .i64 x.kids)) :=
    ((((Turn.refl [k] W).setCell (by simp) _ _).setCell (by simp) _ _).setCell (by simp) _ _).setCell (by simp) _ _
  refine ⟨k, cap, ns.set j x, by simp, nodesAt_store hrow.nodesAt j x, by simpa using hrow.room, by simpa using hkb.2, by omega, by simp, short_set hsn j x hx, hT.trans (hT2.mono (by simp)), q, hq1, hq2, hR.turn hT2 (by simpa using hkg.symm) (by simp; omega)⟩

set_option maxRecDepth 10000 in
set_option maxHeartbeats 6400000 in
theorem l31Spoil_any (w : World) (base g p B k cap : Nat) (ns : List NodeV) (hp : p ≤ 900000000000) (hr : RdIn base w g p) (hrow : NodeRow B w k cap ns) (hB : base ≤ B) (hkg : k ≠ g) (hn1 : 1 ≤ ns.length) (hn2 : ns.length ≤ 100000) (hsn : ShortNames ns) :
    Calls Tryz.prog 14 #[.pointer (some ⟨g, 0, none⟩), .slice (some ⟨k, 0, none⟩) ns.length cap] w fun e w' => RetSpoil base g p (ns.length + 1) [g, k] w e w' := by
  have hgw := hr.lt
  have hgb := hr.above
  have hkb := hrow.block
  have HR := hide hr
  have HROW := hide hrow
  have HSN := hide hsn
  clear hr hrow hsn
  go_enter Tryz.func14, Tryz.ntmps14
  go_wp2_with fail
  refine (pick_any _ base g p 10 (by omega) (by omega) (by omega) (unhide HR)).mono ?_
  rintro e w1 ⟨v, rfl, hv0, hv1, hr1, ht1⟩
  have hs1 := ht1.size
  have HROW1 := hide ((unhide HROW).turn ht1 (by simp; exact hkg))
  have HT1 := hide (ht1.mono (S' := [g, k]) (by simp))
  have HR1 := hide hr1
  clear hr1 ht1
  by_cases hz : v = 0
  · have hz' : (v != 0) = false := by simp [hz]
    have hlz : ((ns.length : Int) == 0) = false := by rw [beq_eq_false_iff_ne]; omega
    clear hz
    go_wp2_with fail
    refine (pick_any _ base g (p + 1) (ns.length : Int) (by omega) (by omega) (by omega) (unhide HR1)).mono ?_
    rintro e w2 ⟨y, rfl, hy0, hy1, hr2, ht2⟩
    obtain ⟨j, rfl⟩ := Int.eq_ofNat_of_zero_le hy0
    have hj : j < ns.length := by omega
    have hs2 := ht2.size
    have HROW2 := hide ((unhide HROW1).turn ht2 (by simp; exact hkg))
    have HT2 := hide ((unhide HT1).trans (ht2.mono (by simp)))
    have HR2 := hide hr2
    clear hr2 ht2
    obtain ⟨c0, c1, c2, c3⟩ := (unhide HROW2).nodesAt j hj
    rw [Nat.zero_add] at c0 c1 c2 c3
    generalize hx : ns[j] = x at *
    have hxs : x.name.size ≤ 16 := by rw [← hx]; exact unhide HSN _ (List.getElem_mem hj)
    have hTA : Turn [] w2 (w2.alloc (.cells #[.int .i64 x.kind, .int .i64 x.num, .string x.name, .int .i64 x.kids] 51)) := Turn.of_alloc _ _ _
    have HTA := hide hTA
    have HRA := hide ((unhide HR2).turn hTA (by simp) (by simp))
    clear hTA hx
    go_wp2_with fail
    refine (pick_any _ base g (p + 1 + 1) 7 (by omega) (by omega) (by omega) (unhide HRA)).mono ?_
    rintro e w3 ⟨s, rfl, hs0, hs7, hr3, ht3⟩
    have hs3 := ht3.size
    simp at hs3
    have HN3 := hide ((NodeBox.new w2 x).turn ht3 (by simp; omega))
    have HROW3 := hide (((unhide HROW2).turn (unhide HTA) (by simp)).turn ht3 (by simp; exact hkg))
    have HT3 := hide (((unhide HT2).trans ((unhide HTA).mono (by simp))).trans (ht3.mono (by simp)))
    have HR3 := hide hr3
    clear hr3 ht3 c0 c1 c2 c3
    by_cases e0 : s = 0
    · have e0' : (s == 0) = true := by simp [e0]
      clear e0
      obtain ⟨x0, x1, x2, x3⟩ := (unhide HN3).1.cells
      have hf3 := (unhide HN3).2 3
      have HR3d := hide ((unhide HR3).turn (Turn.drew (Turn.refl [] w3)) (by simp) (by simp))
      go_wp2_with fail
      go_region_with (go_at_call 27; refine (pick_any _ base g (p + 1 + 1 + 1) 3 (by omega) (by omega) (by omega) (unhide HR3d)).mono ?_; rintro e w4 ⟨y3, rfl, hy30, hy31, hr4, ht4⟩; have HN4 := hide (NodeBox.turn (unhide HN3) ((Turn.drew (Turn.refl [g] w3)).trans ht4) (by simp; omega)); have hu3 := (unhide HN4).1.cells.2.2.2; have hg3 := (unhide HN4).2 3)
      all_goals
        have hs4 := ht4.size
        have HB := hide ((unhide HN4).setKids (IntKind.i64.wrap (IntKind.i64.wrap (x.kids + y3) - 1)))
        have hTS : Turn [w2.heap.size] w4 (w4.setCell ⟨w2.heap.size, 3, none⟩ (.int .i64 (IntKind.i64.wrap (IntKind.i64.wrap (x.kids + y3) - 1)))) := (Turn.refl _ _).setCell (by simp) _ _
        have HROWW := hide (((unhide HROW3).turn ((Turn.drew (Turn.refl [g] w3)).trans ht4) (by simp; exact hkg)).turn hTS (by simp; omega))
        have HRW := hide (hr4.turn hTS (by simp; omega) (by simp; omega))
        have HTW := hide (((unhide HT3).trans (((Turn.drew (Turn.refl [g] w3)).trans ht4).mono (by simp))).join hTS (by simp; omega))
        have HXS := hide (show x.name.size ≤ 16 from hxs)
        clear hTS hr4 ht4 HN4 hu3 hg3 x0 x1 x2 x3 hf3
        generalize w4.setCell ⟨w2.heap.size, 3, none⟩ (.int .i64 (IntKind.i64.wrap (IntKind.i64.wrap (x.kids + y3) - 1))) = W at *
        generalize IntKind.i64.wrap (IntKind.i64.wrap (x.kids + y3) - 1) = kv at *
        obtain ⟨d0, d1, d2, d3⟩ := (unhide HB).1.cells
        obtain ⟨r0, r1, r2, r3⟩ := (unhide HROWW).nodesAt j hj
        rw [Nat.zero_add] at r0 r1 r2 r3
        have rf0 := (unhide HROWW).soft (j * 4)
        have rf1 := (unhide HROWW).soft (j * 4 + 1)
        have rf2 := (unhide HROWW).soft (j * 4 + 2)
        have rf3 := (unhide HROWW).soft (j * 4 + 3)
        have HPOST := hide (spoil_post (p := p) (j := j) (x := ⟨x.kind, x.num, x.name, kv⟩) (unhide HTW) (unhide HROWW) (unhide HRW) (by omega) (by omega) (unhide HXS) (unhide HSN) hB hkg)
        go_wp2_with fail
        go_ret
        exact unhide HPOST
    · have e0' : (s == 0) = false := by simp [e0]
      by_cases e1 : s = 1
      · have e1' : (s == 1) = true := by simp [e1]
        obtain ⟨x0, x1, x2, x3⟩ := (unhide HN3).1.cells
        have hTL : Turn [] w3 (w3.alloc (.cells #[.int .i64 0, .int .i64 24, .int .i64 (-1), .int .i64 1, .int .i64 2] 3)) := Turn.of_alloc _ _ _
        have HR3l := hide ((unhide HR3).turn hTL (by simp) (by simp))
        go_wp2_with fail
        refine (pick_any _ base g (p + 1 + 1 + 1) 5 (by omega) (by omega) (by omega) (unhide HR3l)).mono ?_
        rintro e w4 ⟨y3, rfl, hy30, hy31, hr4, ht4⟩
        obtain ⟨m, rfl⟩ := Int.eq_ofNat_of_zero_le hy30
        have hs4 := ht4.size
        simp at hs4
        have hlit : ∃ u, True ∧ w4.cell? ⟨w3.heap.size, m, none⟩ = some (.int .i64 u) := by
          have hm : m = 0 ∨ m = 1 ∨ m = 2 ∨ m = 3 ∨ m = 4 := by omega
          have e : w4.cell? ⟨w3.heap.size, m, none⟩ = _ := ht4.cell (i := m) (by simp) (by simp; omega)
          rcases hm with rfl | rfl | rfl | rfl | rfl
          all_goals exact ⟨_, by decide, e.trans (World.cell?_alloc_at _ _ _ _ rfl)⟩
        obtain ⟨u, husz, hu⟩ := hlit
        have HN4 := hide ((NodeBox.turn (unhide HN3) hTL (by simp)).turn ht4 (by simp; omega))
        have hg3 := (unhide HN4).2 0
        obtain ⟨u0, u1, u2, u3⟩ := (unhide HN4).1.cells
        have HB := hide ((unhide HN4).setKind u)
        have hTS : Turn [w2.heap.size] w4 (w4.setCell ⟨w2.heap.size, 0, none⟩ (.int .i64 u)) := (Turn.refl _ _).setCell (by simp) _ _
        have HROWW := hide ((((unhide HROW3).turn hTL (by simp)).turn ht4 (by simp; exact hkg)).turn hTS (by simp; omega))
        have HRW := hide (hr4.turn hTS (by simp; omega) (by simp; omega))
        have HTW := hide ((((unhide HT3).trans (hTL.mono (by simp))).trans (ht4.mono (by simp))).join hTS (by simp; omega))
        have HXS := hide (show x.name.size ≤ 16 from hxs)
        clear hTS hr4 ht4 HN4 x0 x1 x2 x3 hTL hy30
        obtain ⟨d0, d1, d2, d3⟩ := (unhide HB).1.cells
        obtain ⟨r0, r1, r2, r3⟩ := (unhide HROWW).nodesAt j hj
        rw [Nat.zero_add] at r0 r1 r2 r3
        have rf0 := (unhide HROWW).soft (j * 4)
        have rf1 := (unhide HROWW).soft (j * 4 + 1)
        have rf2 := (unhide HROWW).soft (j * 4 + 2)
        have rf3 := (unhide HROWW).soft (j * 4 + 3)
        have HPOST := hide (spoil_post (p := p) (j := j) (x := ⟨u, x.num, x.name, x.kids⟩) (unhide HTW) (unhide HROWW) (unhide HRW) (by omega) (by omega) (unhide HXS) (unhide HSN) hB hkg)
        go_wp2_with fail
        go_ret
        exact unhide HPOST
      · have e1' : (s == 1) = false := by simp [e1]
        by_cases e2 : s = 2
        · have e2' : (s == 2) = true := by simp [e2]
          obtain ⟨x0, x1, x2, x3⟩ := (unhide HN3).1.cells
          have hTL : Turn [] w3 (w3.alloc (.cells #[.int .i64 (-1), .int .i64 1, .int .i64 1000000000000000000] 3)) := Turn.of_alloc _ _ _
          have HR3l := hide ((unhide HR3).turn hTL (by simp) (by simp))
          go_wp2_with fail
          refine (pick_any _ base g (p + 1 + 1 + 1) 3 (by omega) (by omega) (by omega) (unhide HR3l)).mono ?_
          rintro e w4 ⟨y3, rfl, hy30, hy31, hr4, ht4⟩
          obtain ⟨m, rfl⟩ := Int.eq_ofNat_of_zero_le hy30
          have hs4 := ht4.size
          simp at hs4
          have hlit : ∃ u, True ∧ w4.cell? ⟨w3.heap.size, m, none⟩ = some (.int .i64 u) := by
            have hm : m = 0 ∨ m = 1 ∨ m = 2 := by omega
            have e : w4.cell? ⟨w3.heap.size, m, none⟩ = _ := ht4.cell (i := m) (by simp) (by simp; omega)
            rcases hm with rfl | rfl | rfl
            all_goals exact ⟨_, by decide, e.trans (World.cell?_alloc_at _ _ _ _ rfl)⟩
          obtain ⟨u, husz, hu⟩ := hlit
          have HN4 := hide ((NodeBox.turn (unhide HN3) hTL (by simp)).turn ht4 (by simp; omega))
          have hg3 := (unhide HN4).2 1
          obtain ⟨u0, u1, u2, u3⟩ := (unhide HN4).1.cells
          have HB := hide ((unhide HN4).setNum u)
          have hTS : Turn [w2.heap.size] w4 (w4.setCell ⟨w2.heap.size, 1, none⟩ (.int .i64 u)) := (Turn.refl _ _).setCell (by simp) _ _
          have HROWW := hide ((((unhide HROW3).turn hTL (by simp)).turn ht4 (by simp; exact hkg)).turn hTS (by simp; omega))
          have HRW := hide (hr4.turn hTS (by simp; omega) (by simp; omega))
          have HTW := hide ((((unhide HT3).trans (hTL.mono (by simp))).trans (ht4.mono (by simp))).join hTS (by simp; omega))
          have HXS := hide (show x.name.size ≤ 16 from hxs)
          clear hTS hr4 ht4 HN4 x0 x1 x2 x3 hTL hy30
          obtain ⟨d0, d1, d2, d3⟩ := (unhide HB).1.cells
          obtain ⟨r0, r1, r2, r3⟩ := (unhide HROWW).nodesAt j hj
          rw [Nat.zero_add] at r0 r1 r2 r3
          have rf0 := (unhide HROWW).soft (j * 4)
          have rf1 := (unhide HROWW).soft (j * 4 + 1)
          have rf2 := (unhide HROWW).soft (j * 4 + 2)
          have rf3 := (unhide HROWW).soft (j * 4 + 3)
          have HPOST := hide (spoil_post (p := p) (j := j) (x := ⟨x.kind, u, x.name, x.kids⟩) (unhide HTW) (unhide HROWW) (unhide HRW) (by omega) (by omega) (unhide HXS) (unhide HSN) hB hkg)
          go_wp2_with fail
          go_ret
          exact unhide HPOST
        · have e2' : (s == 2) = false := by simp [e2]
          by_cases e3 : s = 3
          · have e3' : (s == 3) = true := by simp [e3]
            obtain ⟨x0, x1, x2, x3⟩ := (unhide HN3).1.cells
            have hTL : Turn [] w3 (w3.alloc (.cells #[.string ⟨#[]⟩, .string ⟨#[105, 102]⟩, .string ⟨#[88]⟩, .string ⟨#[57, 97]⟩, .string ⟨#[97, 98, 99, 100, 101, 102, 103, 104, 105]⟩, .string ⟨#[120]⟩] 9)) := Turn.of_alloc _ _ _
            have HR3l := hide ((unhide HR3).turn hTL (by simp) (by simp))
            go_wp2_with fail
            refine (pick_any _ base g (p + 1 + 1 + 1) 6 (by omega) (by omega) (by omega) (unhide HR3l)).mono ?_
            rintro e w4 ⟨y3, rfl, hy30, hy31, hr4, ht4⟩
            obtain ⟨m, rfl⟩ := Int.eq_ofNat_of_zero_le hy30
            have hs4 := ht4.size
            simp at hs4
            have hlit : ∃ u, u.size ≤ 16 ∧ w4.cell? ⟨w3.heap.size, m, none⟩ = some (.string u) := by
              have hm : m = 0 ∨ m = 1 ∨ m = 2 ∨ m = 3 ∨ m = 4 ∨ m = 5 := by omega
              have e : w4.cell? ⟨w3.heap.size, m, none⟩ = _ := ht4.cell (i := m) (by simp) (by simp; omega)
              rcases hm with rfl | rfl | rfl | rfl | rfl | rfl
              all_goals exact ⟨_, by decide, e.trans (World.cell?_alloc_at _ _ _ _ rfl)⟩
            obtain ⟨u, husz, hu⟩ := hlit
            have HN4 := hide ((NodeBox.turn (unhide HN3) hTL (by simp)).turn ht4 (by simp; omega))
            have hg3 := (unhide HN4).2 2
            obtain ⟨u0, u1, u2, u3⟩ := (unhide HN4).1.cells
            have HB := hide ((unhide HN4).setName u)
            have hTS : Turn [w2.heap.size] w4 (w4.setCell ⟨w2.heap.size, 2, none⟩ (.string u)) := (Turn.refl _ _).setCell (by simp) _ _
            have HROWW := hide ((((unhide HROW3).turn hTL (by simp)).turn ht4 (by simp; exact hkg)).turn hTS (by simp; omega))
            have HRW := hide (hr4.turn hTS (by simp; omega) (by simp; omega))
            have HTW := hide ((((unhide HT3).trans (hTL.mono (by simp))).trans (ht4.mono (by simp))).join hTS (by simp; omega))
            have HXS := hide (show u.size ≤ 16 from husz)
            clear hTS hr4 ht4 HN4 x0 x1 x2 x3 hTL hy30
            obtain ⟨d0, d1, d2, d3⟩ := (unhide HB).1.cells
            obtain ⟨r0, r1, r2, r3⟩ := (unhide HROWW).nodesAt j hj
            rw [Nat.zero_add] at r0 r1 r2 r3
            have rf0 := (unhide HROWW).soft (j * 4)
            have rf1 := (unhide HROWW).soft (j * 4 + 1)
            have rf2 := (unhide HROWW).soft (j * 4 + 2)
            have rf3 := (unhide HROWW).soft (j * 4 + 3)
            have HPOST := hide (spoil_post (p := p) (j := j) (x := ⟨x.kind, x.num, u, x.kids⟩) (unhide HTW) (unhide HROWW) (unhide HRW) (by omega) (by omega) (unhide HXS) (unhide HSN) hB hkg)
            go_wp2_with fail
            go_ret
            exact unhide HPOST
          · have e3' : (s == 3) = false := by simp [e3]
            by_cases e4 : s = 4
            · have e4' : (s == 4) = true := by simp [e4]
              clear e0 e1 e2 e3 e4
              have hcap := (unhide HROW3).room
              have hcap' : (j : Int) ≤ (cap : Int) := by omega
              have HPOST := hide (show RetSpoil base g p (ns.length + 1) [g, k] w (.returned (.slice (some ⟨k, 0, none⟩) j cap)) w3 from
                ⟨k, cap, ns.take j, by simp; omega, nodesAt_take (unhide HROW3).nodesAt j, by simp; omega, by omega, by omega, by simp; omega, short_take (unhide HSN) j, unhide HT3, _, by omega, by omega, unhide HR3⟩)
              go_wp2_with fail
              go_ret
              exact unhide HPOST
            · have e4' : (s == 4) = false := by simp [e4]
              by_cases e5 : s = 5
              · have e5' : (s == 5) = true := by simp [e5]
                clear e0 e1 e2 e3 e4 e5
                obtain ⟨d0, d1, d2, d3⟩ := (unhide HN3).1.cells
                have hnb : w2.heap.size < w3.heap.size := by omega
                obtain ⟨i0, hi, hz0, hz1, hz2⟩ := info_parts infoNode4
                have h04 : 0 < 4 := by decide
                have hm1 : 0 < ns.length := by omega
                have h63 : 0 + ns.length ≤ maxLen := by unfold maxLen; omega
                have hby : (0 + ns.length) * 40 ≤ 140737488355328 := by omega
                have h63' : ns.length + 1 ≤ maxLen := by unfold maxLen; omega
                have hby' : (ns.length + 1) * 40 ≤ 140737488355328 := by omega
                have hle0 : w3.heap.size ≤ w3.heap.size := Nat.le_refl _
                have hle1 : w3.heap.size ≤ w3.heap.size + 1 := Nat.le_succ _
                have trA : Hid (Turn [] w3 (w3.alloc (.cells #[] 51)).drew) := hide (Turn.drew (Turn.of_alloc _ _ _))
                have trB : Hid (Turn [] w3 ((w3.alloc (.cells #[] 51)).alloc (.cells #[.int .i64 x.kind, .int .i64 x.num, .string x.name, .int .i64 x.kids] 51)).drew) := hide (Turn.drew ((Turn.of_alloc _ _ _).alloc _))
                have trC : Hid (Turn [] w3 ((w3.alloc (.cells #[.int .i64 x.kind, .int .i64 x.num, .string x.name, .int .i64 x.kids] 51)).alloc (.cells #[] 51)).drew) := hide (Turn.drew ((Turn.of_alloc _ _ _).alloc _))
                have hbA := (unhide trA).size
                have hbB := (unhide trB).size
                have hbC := (unhide trC).size
                have newsA := hide ((unhide HROW3).turn (unhide trA) (by simp)).news
                have newsB := hide ((unhide HROW3).turn (unhide trB) (by simp)).news
                have newsC := hide ((unhide HROW3).turn (unhide trC) (by simp)).news
                have own0 : (w3.alloc (.cells #[] 51)).ownsRow w3.heap.size 51 4 (.slice (some ⟨w3.heap.size, 0, none⟩) 0 0) 0 [] := NodeRow.lit' (B := w3.heap.size) w3.heap.size w3 [] rfl hle0 (by simp)
                have own1 : ((w3.alloc (.cells #[.int .i64 x.kind, .int .i64 x.num, .string x.name, .int .i64 x.kids] 51)).alloc (.cells #[] 51)).ownsRow w3.heap.size 51 4 (.slice (some ⟨w3.heap.size + 1, 0, none⟩) 0 0) 0 [] := NodeRow.lit' (B := w3.heap.size) (w3.heap.size + 1) (w3.alloc (.cells #[.int .i64 x.kind, .int .i64 x.num, .string x.name, .int .i64 x.kids] 51)) [] (by simp) (by simp) (by simp)
                have ownA : Hid ((w3.alloc (.cells #[] 51)).drew.ownsRow w3.heap.size 51 4 (.slice (some ⟨w3.heap.size, 0, none⟩) 0 0) 0 []) := hide own0
                have ownB : Hid (((w3.alloc (.cells #[] 51)).alloc (.cells #[.int .i64 x.kind, .int .i64 x.num, .string x.name, .int .i64 x.kids] 51)).drew.ownsRow w3.heap.size 51 4 (.slice (some ⟨w3.heap.size, 0, none⟩) 0 0) 0 []) := hide (owns_turn own0 (Turn.drew (Turn.of_alloc [] _ _)) (by simp))
                have ownC : Hid (((w3.alloc (.cells #[.int .i64 x.kind, .int .i64 x.num, .string x.name, .int .i64 x.kids] 51)).alloc (.cells #[] 51)).drew.ownsRow w3.heap.size 51 4 (.slice (some ⟨w3.heap.size + 1, 0, none⟩) 0 0) 0 []) := hide own1
                have xB : Hid (NodeRow w3.heap.size ((w3.alloc (.cells #[] 51)).alloc (.cells #[.int .i64 x.kind, .int .i64 x.num, .string x.name, .int .i64 x.kids] 51)).drew (w3.heap.size + 1) 1 [x]) := hide ((NodeRow.lit' (B := w3.heap.size) (w3.heap.size + 1) (w3.alloc (.cells #[] 51)) [x] (by simp) (by simp) (by simp)).turn (Turn.drew (Turn.refl [] _)) (by simp))
                have xC : Hid (NodeRow w3.heap.size ((w3.alloc (.cells #[.int .i64 x.kind, .int .i64 x.num, .string x.name, .int .i64 x.kids] 51)).alloc (.cells #[] 51)).drew w3.heap.size 1 [x]) := hide ((NodeRow.lit' (B := w3.heap.size) w3.heap.size w3 [x] rfl hle0 (by simp)).turn (Turn.drew (Turn.of_alloc [] _ _)) (by simp))
                clear own0 own1
                have hq1 : p ≤ p + 1 + 1 + 1 := by omega
                have hq2 : p + 1 + 1 + 1 ≤ p + 10 := by omega
                have hbb : base ≤ w3.heap.size := by omega
                go_wp2_with fail
                go_region_held3 (fun w' => w'.cell? ⟨w2.heap.size, 0, none⟩ = some (.int .i64 x.kind) ∧ w'.cell? ⟨w2.heap.size, 1, none⟩ = some (.int .i64 x.num) ∧ w'.cell? ⟨w2.heap.size, 2, none⟩ = some (.string x.name) ∧ w'.cell? ⟨w2.heap.size, 3, none⟩ = some (.int .i64 x.kids)) (first | go_keep | (refine keep4 hnb d0 d1 d2 d3 (unhide ?_); assumption))
                  (first
                    | (refine step_append_lies _ (by rfl) (.tmp 66) (.tmp 67) 23 (by rfl) w3.heap.size 51 i0 _ 4 40 Tryz.underlying23 hi hz0 hz1 hz2 rfl h04 (.slice (some ⟨w3.heap.size, 0, none⟩) 0 0) 0 [] (by rfl) (unhide ownA) ⟨k, 0, none⟩ ns.length cap (cellsL ns) (by rfl) (cellsL_len ns) (unhide newsA) (cellsL_one ns) hm1 h63 hby hbA _ rfl ?_; intro g1 c1 w5 hown5 hgrow5 _ _; rw [Nat.zero_add, List.nil_append] at hown5; have HOWN := hide hown5; have HT5 := hide (Turn.grown (unhide trA) hgrow5 (fun y hy => by cases hy; exact .inr hle0)); have hsz5 := (unhide HT5).size; have HG5 := hide hgrow5; have OWN2 := hide (owns_turn hown5 (Turn.of_alloc [] w5 (.cells #[.int .i64 x.kind, .int .i64 x.num, .string x.name, .int .i64 x.kids] 51)) (by simp)); have X2 := hide (show NodeRow w3.heap.size (w5.alloc (.cells #[.int .i64 x.kind, .int .i64 x.num, .string x.name, .int .i64 x.kids] 51)) w5.heap.size 1 [x] from NodeRow.lit' (B := w3.heap.size) w5.heap.size w5 [x] rfl hsz5 (by simp)); have HT6 := hide ((unhide HT5).alloc (.cells #[.int .i64 x.kind, .int .i64 x.num, .string x.name, .int .i64 x.kids] 51)); have hb6 := (unhide HT6).size; have hg1 := (World.ownsRow.lt (unhide OWN2) g1 rfl).1; clear hown5 hgrow5)
                    | (refine step_append_lies _ (by rfl) (.tmp 66) (.tmp 67) 23 (by rfl) w3.heap.size 51 i0 _ 4 40 Tryz.underlying23 hi hz0 hz1 hz2 rfl h04 (.slice (some ⟨w3.heap.size, 0, none⟩) 0 0) 0 [] (by rfl) (unhide ownB) ⟨k, 0, none⟩ ns.length cap (cellsL ns) (by rfl) (cellsL_len ns) (unhide newsB) (cellsL_one ns) hm1 h63 hby hbB _ rfl ?_; intro g1 c1 w5 hown5 hgrow5 _ _; rw [Nat.zero_add, List.nil_append] at hown5; have HOWN := hide hown5; have HT5 := hide (Turn.grown (unhide trB) hgrow5 (fun y hy => by cases hy; exact .inr hle0)); have hsz5 := (unhide HT5).size; have HG5 := hide hgrow5; have OWN2 := hide hown5; have X2 := hide ((unhide xB).turn (Turn.of_grown (S := [w3.heap.size]) hgrow5 (fun y hy => by cases hy; simp)) (by simp)); have HT6 := HT5; have hb6 := (unhide HT6).size; have hg1 := (World.ownsRow.lt (unhide OWN2) g1 rfl).1; clear hown5 hgrow5)
                    | (refine step_append_lies _ (by rfl) (.tmp 66) (.tmp 67) 23 (by rfl) w3.heap.size 51 i0 _ 4 40 Tryz.underlying23 hi hz0 hz1 hz2 rfl h04 (.slice (some ⟨w3.heap.size + 1, 0, none⟩) 0 0) 0 [] (by rfl) (unhide ownC) ⟨k, 0, none⟩ ns.length cap (cellsL ns) (by rfl) (cellsL_len ns) (unhide newsC) (cellsL_one ns) hm1 h63 hby hbC _ rfl ?_; intro g1 c1 w5 hown5 hgrow5 _ _; rw [Nat.zero_add, List.nil_append] at hown5; have HOWN := hide hown5; have HT5 := hide (Turn.grown (unhide trC) hgrow5 (fun y hy => by cases hy; exact .inr hle1)); have hsz5 := (unhide HT5).size; have HG5 := hide hgrow5; have OWN2 := hide hown5; have X2 := hide ((unhide xC).turn (Turn.of_grown (S := [w3.heap.size + 1]) hgrow5 (fun y hy => by cases hy; simp)) (by simp)); have HT6 := HT5; have hb6 := (unhide HT6).size; have hg1 := (World.ownsRow.lt (unhide OWN2) g1 rfl).1; clear hown5 hgrow5)
                    | (refine step_append_lies _ (by rfl) (.tmp 68) (.tmp 70) 23 (by rfl) w3.heap.size 51 i0 _ 4 40 Tryz.underlying23 hi hz0 hz1 hz2 rfl h04 (.slice (some ⟨g1, 0, none⟩) ns.length c1) ns.length (cellsL ns) (by first | rfl | simp [Act.eval]) (unhide OWN2) ⟨_, 0, none⟩ 1 1 (cellsL [x]) (by rfl) (cellsL_len [x]) (unhide X2).news (cellsL_one [x]) Nat.one_pos h63' hby' hb6 _ rfl ?_; intro g2 c2 w6 hown6 hgrow6 _ _; have HT7 := hide (Turn.grown (unhide HT6) hgrow6 (fun y hy => by cases hy; exact .inr hg1)); have HPOST := hide (spoil_app (p := p) (unhide HT3) (unhide HT7) hown6 (unhide HR3) hq1 hq2 hxs (unhide HSN) hbb); clear hown6 hgrow6))
                all_goals (go_wp2_with fail; go_ret; exact unhide HPOST)
              · have e5' : (s == 5) = false := by simp [e5]
                clear e0 e1 e2 e3 e4 e5
                have HROWW := HROW3
                obtain ⟨d0, d1, d2, d3⟩ := (unhide HN3).1.cells
                obtain ⟨r0, r1, r2, r3⟩ := (unhide HROWW).nodesAt j hj
                rw [Nat.zero_add] at r0 r1 r2 r3
                have rf0 := (unhide HROWW).soft (j * 4)
                have rf1 := (unhide HROWW).soft (j * 4 + 1)
                have rf2 := (unhide HROWW).soft (j * 4 + 2)
                have rf3 := (unhide HROWW).soft (j * 4 + 3)
                have HPOST := hide (spoil_post (p := p) (j := j) (x := x) (unhide HT3) (unhide HROWW) (unhide HR3) (by omega) (by omega) hxs (unhide HSN) hB hkg)
                go_wp2_with fail
                go_ret
                exact unhide HPOST
  · have hz' : (v != 0) = true := by simp [hz]
    clear hz
    have HX := hide (show RetSpoil base g p (ns.length + 1) [g, k] w (.returned (.slice (some ⟨k, 0, none⟩) ns.length cap)) w1 from
      ⟨k, cap, ns, rfl, (unhide HROW1).nodesAt, (unhide HROW1).room, by omega, by omega, by omega, unhide HSN, unhide HT1, p + 1, by omega, by omega, unhide HR1⟩)
    go_wp2_with fail
    go_ret
    exact unhide HX

end Go.Proofs.YtkfhokeoooafnaaGreatDoor
