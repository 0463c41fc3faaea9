/-
  The specification's drawing of a body, whole; and how one in ten is spoiled.
-/
/-
  How the specification spoils one list of nodes in ten.
-/
import Derived.Test.YtjfebnplffpmoaaGreatDoorDrawBody
import Derived.Deep.RegionWith
import Derived.Deep.RegionHeld3
import Derived.Deep.AppendLies
namespace Go.Proofs.YtjfebnplffpmoaaGreatDoor
open Go.RowKit Go.Maps Go.Deep

theorem Turn.join {S S' : List Nat} {a b c : World} (h : Turn S a b) (k : Turn S' b c) (hS : ∀ x ∈ S', x ∈ S ∨ a.heap.size ≤ x) : Turn S a c :=
  ⟨k.os.trans h.os, k.tape.trans h.tape, k.output.trans h.output, Nat.le_trans h.size k.size,
    fun i hi hm => (k.block i (Nat.lt_of_lt_of_le hi h.size) (fun e => (hS i e).elim hm (fun e => by omega))).trans (h.block i hi hm)⟩
theorem RetDraw.weaken {base g p q K C K' C' : Nat} {w w0 : World} {e : Ending} {w' : World} (h : RetDraw base g q K C w e w') (ht : Turn [g] w0 w) (hK : K ≤ K') (hpq : p ≤ q) (hC : q + C ≤ p + C') : RetDraw base g p K' C' w0 e w' := by
  obtain ⟨⟨k, cap, ns, rfl, hrow, h1, h2, h3⟩, ht2, q2, hq1, hq2, hr⟩ := h
  exact ⟨⟨k, cap, ns, rfl, hrow.mono ht.size, h1, by omega, h3⟩, ht.trans ht2, q2, by omega, by omega, hr⟩

set_option maxHeartbeats 6400000 in
theorem l31Body_any (w : World) (base g p : Nat) (hp : p ≤ 100000000000) (hr : RdIn base w g p) :
    Calls Tryz.prog 16 #[.pointer (some ⟨g, 0, none⟩)] w fun e w' => RetDraw base g p 10000 70000 w e w' := by
  have hgw := hr.lt
  have hgb := hr.above
  have HR := hide hr
  clear hr
  go_enter Tryz.func16, Tryz.ntmps16
  go_wp2_with fail
  refine (pick_any _ base g p 40 (by omega) (by omega) (by omega) (unhide HR)).mono ?_
  rintro e w1 ⟨v, rfl, hv0, hv1, hr1, ht1⟩
  have hs1 := ht1.size
  have hTA : Turn [] w1 (w1.alloc (.cells #[.int .i64 (10 + v)] 3)) := Turn.of_alloc _ _ _
  have HR1 := hide (hr1.turn hTA (by simp) (by simp))
  have HT1 := hide (ht1.trans (hTA.mono (by simp)))
  clear hr1 ht1 hTA
  go_wp2_with fail
  refine (pick_any _ base g (p + 1) 7 (by omega) (by omega) (by omega) (unhide HR1)).mono ?_
  rintro e w2 ⟨u, rfl, hu0, hu1, hr2, ht2⟩
  have hs2 := ht2.size
  simp at hs2
  have hcl : w2.cell? ⟨w1.heap.size, 0, none⟩ = some (.int .i64 (10 + v)) := (ht2.cell (by simp) (by simp; omega)).trans (World.cell?_alloc_at _ _ _ _ rfl)
  have hfl : w2.frozen? ⟨w1.heap.size, 0, none⟩ = false := (ht2.frozen (by simp) (by simp; omega)).trans (World.frozen?_alloc_at _ _ _ _ rfl)
  have HT2 := hide ((unhide HT1).trans ht2)
  obtain ⟨d, hd⟩ := Int.eq_ofNat_of_zero_le (show 0 ≤ 2 + u by omega)
  have hd8 : d ≤ 8 := by omega
  have hNd := nN_le d hd8
  have hNp := nN_pos d
  have HC := hide (l31Tree_any d (by omega) w2 base g w1.heap.size (p + 1 + 1) (10 + v) hr2 (by omega) (by omega) (by omega) (by omega) hcl hfl (by omega) (by omega))
  rw [← hd] at HC
  clear hr2 ht2 hcl hfl hd
  go_wp2_with fail
  refine (unhide HC).mono ?_
  rintro e w3 ⟨⟨k, cap, ns, rfl, hrow, hn1, hn2, hsn⟩, q, L', hq1, hq2, hr3, _, _, _, _, ht3⟩
  have HT3 := hide ((unhide HT2).join ht3 (by simp; omega))
  have HR3 := hide hr3
  have HROW := hide (And.intro hrow hsn)
  have hs3 := ht3.size
  clear hr3 ht3 hrow hsn HC
  go_wp2_with fail
  refine (pick_any _ base g q 40 (by omega) (by omega) (by omega) (unhide HR3)).mono ?_
  rintro e w4 ⟨z, rfl, hz0, hz1, hr4, ht4⟩
  have hkb := (unhide HROW).1.block
  have HT4 := hide ((unhide HT3).trans ht4)
  have HROW4 := hide (And.intro ((unhide HROW).1.turn ht4 (by simp; omega)) (unhide HROW).2)
  have HR4 := hide hr4
  have hs4 := ht4.size
  clear hr4 ht4
  by_cases e0 : z = 0
  · have e0' : (z == 0) = true := by simp [e0]
    clear e0
    go_wp2_with fail
    refine (pick_any _ base g (q + 1) 4 (by omega) (by omega) (by omega) (unhide HR4)).mono ?_
    rintro e w5 ⟨y, rfl, hy0, hy1, hr5, ht5⟩
    have HT5 := hide ((unhide HT4).trans ht5)
    have HR5 := hide hr5
    clear hr5 ht5
    go_wp2_with fail
    refine (l31Chain_any _ base g (q + 1 + 1) _ (by omega) (by omega) (by omega) (unhide HR5)).mono ?_
    intro e w6 hret
    have HX := hide (hret.weaken (p := p) (K' := 10000) (C' := 70000) (unhide HT5) (by omega) (by omega) (by omega))
    obtain ⟨⟨k6, cap6, n6, rfl, _⟩, _⟩ := hret
    go_wp2_with fail
    go_ret
    exact unhide HX
  · have e0' : (z == 0) = false := by simp [e0]
    clear e0
    by_cases e1 : z = 1
    · have e1' : (z == 1) = true := by simp [e1]
      clear e1
      go_wp2_with fail
      refine (pick_any _ base g (q + 1) 5 (by omega) (by omega) (by omega) (unhide HR4)).mono ?_
      rintro e w5 ⟨y, rfl, hy0, hy1, hr5, ht5⟩
      have HT5 := hide ((unhide HT4).trans ht5)
      have HR5 := hide hr5
      clear hr5 ht5
      go_wp2_with fail
      refine (l31Wide_any _ base g (q + 1 + 1) (398 + y).toNat (by omega) (by omega) _ (by omega) (unhide HR5)).mono ?_
      intro e w6 hret
      have HX := hide (hret.weaken (p := p) (K' := 10000) (C' := 70000) (unhide HT5) (by omega) (by omega) (by omega))
      obtain ⟨⟨k6, cap6, n6, rfl, _⟩, _⟩ := hret
      go_wp2_with fail
      go_ret
      exact unhide HX
    · have e1' : (z == 1) = false := by simp [e1]
      clear e1
      by_cases e2 : z = 2
      · have e2' : (z == 2) = true := by simp [e2]
        clear e2
        go_wp2_with fail
        refine (l31Heavy_any _ base g (q + 1) (by omega) (unhide HR4)).mono ?_
        intro e w6 hret
        have HX := hide (hret.weaken (p := p) (K' := 10000) (C' := 70000) (unhide HT4) (by omega) (by omega) (by omega))
        obtain ⟨⟨k6, cap6, n6, rfl, _⟩, _⟩ := hret
        go_wp2_with fail
        go_ret
        exact unhide HX
      · have e2' : (z == 2) = false := by simp [e2]
        clear e2
        have HX := hide (show RetDraw base g p 10000 70000 w (.returned (.slice (some ⟨k, 0, none⟩) ns.length cap)) w4 from
          ⟨⟨k, cap, ns, rfl, (unhide HROW4).1.mono (by omega), hn1, by omega, (unhide HROW4).2⟩, unhide HT4, q + 1, by omega, by omega, unhide HR4⟩)
        go_wp2_with fail
        go_ret
        exact unhide HX

end Go.Proofs.YtjfebnplffpmoaaGreatDoor

namespace Go.Proofs.YtjfebnplffpmoaaGreatDoor
open Go.RowKit Go.Maps Go.Deep

/-- some list of nodes comes back, in memory of the call's own -/
def RetSpoil (base g p K : Nat) (S : List Nat) (w : World) (e : Ending) (w' : World) : Prop :=
  ∃ k cap ns, e = .returned (.slice (some ⟨k, 0, none⟩) ns.length cap) ∧ NodesAt w' k 0 ns ∧ ns.length ≤ cap ∧ k < w'.heap.size ∧ base ≤ k ∧ ns.length ≤ K ∧ ShortNames ns ∧ Turn S w w' ∧ ∃ q, p ≤ q ∧ q ≤ p + 10 ∧ RdIn base w' g q

theorem nodesAt_store {w : World} {k : Nat} {ns : List NodeV} (h : NodesAt w k 0 ns) (j : Nat) (x : NodeV) :
    NodesAt ((((w.setCell ⟨k, j * 4, none⟩ (.int .i64 x.kind)).setCell ⟨k, j * 4 + 1, none⟩ (.int .i64 x.num)).setCell ⟨k, j * 4 + 2, none⟩ (.string x.name)).setCell ⟨k, j * 4 + 3, none⟩ (.int .i64 x.kids)) k 0 (ns.set j x) := by
  intro i hi
  have hi' : i < ns.length := by simpa using hi
  obtain ⟨a, b, c, d⟩ := h i hi'
  rw [Nat.zero_add] at a b c d ⊢
  by_cases e : i = j
  · subst e
    simp only [List.getElem_set_self]
    refine ⟨?_, ?_, ?_, ?_⟩
    · rw [World.cell?_setCell_other _ _ _ _ (by simp), World.cell?_setCell_other _ _ _ _ (by simp), World.cell?_setCell_other _ _ _ _ (by simp), World.cell?_setCell_same _ _ _ a]
    · rw [World.cell?_setCell_other _ _ _ _ (by simp), World.cell?_setCell_other _ _ _ _ (by simp)]
      exact World.cell?_setCell_same _ _ _ ((World.cell?_setCell_other _ _ _ _ (by simp)).trans b)
    · rw [World.cell?_setCell_other _ _ _ _ (by simp)]
      exact World.cell?_setCell_same _ _ _ ((World.cell?_setCell_other _ _ _ _ (by simp)).trans ((World.cell?_setCell_other _ _ _ _ (by simp)).trans c))
    · exact World.cell?_setCell_same _ _ _ ((World.cell?_setCell_other _ _ _ _ (by simp)).trans ((World.cell?_setCell_other _ _ _ _ (by simp)).trans ((World.cell?_setCell_other _ _ _ _ (by simp)).trans d)))
  · rw [List.getElem_set_ne (fun e' => e e'.symm)]
    have far : ∀ (s t : Nat), s < 4 → t < 4 → j * 4 + s ≠ i * 4 + t := by intro s t hs ht he; omega
    have fa : ∀ (o o' : Nat), o ≠ o' → (⟨k, o, none⟩ : Addr) ≠ ⟨k, o', none⟩ := fun o o' h he => h (congrArg Addr.off he)
    refine ⟨?_, ?_, ?_, ?_⟩
    · rw [World.cell?_setCell_other _ _ _ _ (fa (j * 4 + 3) (i * 4) (far 3 0 (by omega) (by omega))), World.cell?_setCell_other _ _ _ _ (fa (j * 4 + 2) (i * 4) (far 2 0 (by omega) (by omega))), World.cell?_setCell_other _ _ _ _ (fa (j * 4 + 1) (i * 4) (far 1 0 (by omega) (by omega))), World.cell?_setCell_other _ _ _ _ (fa (j * 4) (i * 4) (far 0 0 (by omega) (by omega)))]; exact a
    · rw [World.cell?_setCell_other _ _ _ _ (fa (j * 4 + 3) (i * 4 + 1) (far 3 1 (by omega) (by omega))), World.cell?_setCell_other _ _ _ _ (fa (j * 4 + 2) (i * 4 + 1) (far 2 1 (by omega) (by omega))), World.cell?_setCell_other _ _ _ _ (fa (j * 4 + 1) (i * 4 + 1) (far 1 1 (by omega) (by omega))), World.cell?_setCell_other _ _ _ _ (fa (j * 4) (i * 4 + 1) (far 0 1 (by omega) (by omega)))]; exact b
    · rw [World.cell?_setCell_other _ _ _ _ (fa (j * 4 + 3) (i * 4 + 2) (far 3 2 (by omega) (by omega))), World.cell?_setCell_other _ _ _ _ (fa (j * 4 + 2) (i * 4 + 2) (far 2 2 (by omega) (by omega))), World.cell?_setCell_other _ _ _ _ (fa (j * 4 + 1) (i * 4 + 2) (far 1 2 (by omega) (by omega))), World.cell?_setCell_other _ _ _ _ (fa (j * 4) (i * 4 + 2) (far 0 2 (by omega) (by omega)))]; exact c
    · rw [World.cell?_setCell_other _ _ _ _ (fa (j * 4 + 3) (i * 4 + 3) (far 3 3 (by omega) (by omega))), World.cell?_setCell_other _ _ _ _ (fa (j * 4 + 2) (i * 4 + 3) (far 2 3 (by omega) (by omega))), World.cell?_setCell_other _ _ _ _ (fa (j * 4 + 1) (i * 4 + 3) (far 1 3 (by omega) (by omega))), World.cell?_setCell_other _ _ _ _ (fa (j * 4) (i * 4 + 3) (far 0 3 (by omega) (by omega)))]; exact d
theorem short_set {ns : List NodeV} (h : ShortNames ns) (j : Nat) (x : NodeV) (hx : x.name.size ≤ 16) : ShortNames (ns.set j x) := by
  intro n hn
  rcases List.mem_or_eq_of_mem_set hn with h1 | h1
  · exact h n h1
  · subst h1; exact hx
theorem short_take {ns : List NodeV} (h : ShortNames ns) (j : Nat) : ShortNames (ns.take j) := fun n hn => h n (List.mem_of_mem_take hn)
theorem nodesAt_take {w : World} {k : Nat} {ns : List NodeV} (h : NodesAt w k 0 ns) (j : Nat) : NodesAt w k 0 (ns.take j) := by
  intro i hi
  have hi' : i < ns.length := by simp at hi; omega
  rw [List.getElem_take]
  exact h i hi'

/-- a node's own block, that may be written -/
def NodeBox (w : World) (b : Nat) (x : NodeV) : Prop := NodeCell w b x ∧ ∀ i, w.frozen? ⟨b, i, none⟩ = false
theorem NodeBox.turn {w w' : World} {b : Nat} {x : NodeV} {S : List Nat} (h : NodeBox w b x) (ht : Turn S w w') (hb : b ∉ S) : NodeBox w' b x :=
  ⟨h.1.turn ht hb, fun i => (ht.frozen h.1.1 hb).trans (h.2 i)⟩
theorem NodeBox.new (w : World) (x : NodeV) : NodeBox (w.alloc (.cells #[.int .i64 x.kind, .int .i64 x.num, .string x.name, .int .i64 x.kids] 49)) w.heap.size x :=
  ⟨NodeCell.new w x, fun _ => World.frozen?_alloc_at _ _ _ _ rfl⟩
theorem NodeBox.setCells {w : World} {b : Nat} {x y : NodeV} {i : Nat} {v : Value} (h : NodeBox w b x) (e : NodesAt (w.setCell ⟨b, i, none⟩ v) b 0 [y]) : NodeBox (w.setCell ⟨b, i, none⟩ v) b y :=
  ⟨⟨by simpa using h.1.1, e⟩, fun j => by rw [World.frozen?_setCell]; exact h.2 j⟩
theorem nodesAt_one {w : World} {b : Nat} {y : NodeV} (h0 : w.cell? ⟨b, 0, none⟩ = some (.int .i64 y.kind)) (h1 : w.cell? ⟨b, 1, none⟩ = some (.int .i64 y.num)) (h2 : w.cell? ⟨b, 2, none⟩ = some (.string y.name)) (h3 : w.cell? ⟨b, 3, none⟩ = some (.int .i64 y.kids)) : NodesAt w b 0 [y] := by
  intro i hi
  have : i = 0 := by simpa using hi
  subst this
  exact ⟨h0, h1, h2, h3⟩
theorem NodeBox.setKids {w : World} {b : Nat} {x : NodeV} (h : NodeBox w b x) (v : Int) : NodeBox (w.setCell ⟨b, 3, none⟩ (.int .i64 v)) b ⟨x.kind, x.num, x.name, v⟩ := by
  obtain ⟨a0, a1, a2, a3⟩ := h.1.cells
  exact h.setCells (nodesAt_one (by rw [World.cell?_setCell_other _ _ _ _ (by simp)]; exact a0) (by rw [World.cell?_setCell_other _ _ _ _ (by simp)]; exact a1) (by rw [World.cell?_setCell_other _ _ _ _ (by simp)]; exact a2) (World.cell?_setCell_same _ _ _ a3))
theorem NodeBox.setKind {w : World} {b : Nat} {x : NodeV} (h : NodeBox w b x) (v : Int) : NodeBox (w.setCell ⟨b, 0, none⟩ (.int .i64 v)) b ⟨v, x.num, x.name, x.kids⟩ := by
  obtain ⟨a0, a1, a2, a3⟩ := h.1.cells
  exact h.setCells (nodesAt_one (World.cell?_setCell_same _ _ _ a0) (by rw [World.cell?_setCell_other _ _ _ _ (by simp)]; exact a1) (by rw [World.cell?_setCell_other _ _ _ _ (by simp)]; exact a2) (by rw [World.cell?_setCell_other _ _ _ _ (by simp)]; exact a3))
theorem NodeBox.setNum {w : World} {b : Nat} {x : NodeV} (h : NodeBox w b x) (v : Int) : NodeBox (w.setCell ⟨b, 1, none⟩ (.int .i64 v)) b ⟨x.kind, v, x.name, x.kids⟩ := by
  obtain ⟨a0, a1, a2, a3⟩ := h.1.cells
  exact h.setCells (nodesAt_one (by rw [World.cell?_setCell_other _ _ _ _ (by simp)]; exact a0) (World.cell?_setCell_same _ _ _ a1) (by rw [World.cell?_setCell_other _ _ _ _ (by simp)]; exact a2) (by rw [World.cell?_setCell_other _ _ _ _ (by simp)]; exact a3))
theorem NodeBox.setName {w : World} {b : Nat} {x : NodeV} (h : NodeBox w b x) (v : ByteArray) : NodeBox (w.setCell ⟨b, 2, none⟩ (.string v)) b ⟨x.kind, x.num, v, x.kids⟩ := by
  obtain ⟨a0, a1, a2, a3⟩ := h.1.cells
  exact h.setCells (nodesAt_one (by rw [World.cell?_setCell_other _ _ _ _ (by simp)]; exact a0) (by rw [World.cell?_setCell_other _ _ _ _ (by simp)]; exact a1) (World.cell?_setCell_same _ _ _ a2) (by rw [World.cell?_setCell_other _ _ _ _ (by simp)]; exact a3))
/-- a row of the call's own may be written -/
theorem NodeRow.soft {B : Nat} {w : World} {k cap : Nat} {ns : List NodeV} (h : NodeRow B w k cap ns) (i : Nat) : w.frozen? ⟨k, i, none⟩ = false := by
  rcases h.2 with ⟨h', _⟩ | ⟨g', cap', cur, h', h1, h2, h3⟩
  · simp at h'
  · simp only [Value.slice.injEq, Option.some.injEq, Addr.mk.injEq, and_true, true_and] at h'
    obtain ⟨rfl, rfl⟩ := h'
    simp [World.frozen?, h2]
theorem NodeRow.room {B : Nat} {w : World} {k cap : Nat} {ns : List NodeV} (h : NodeRow B w k cap ns) : ns.length ≤ cap := by
  rcases h.2 with ⟨h', _⟩ | ⟨g', cap', cur, h', h1, h2, h3, _⟩
  · simp at h'
  · simp only [Value.slice.injEq, Option.some.injEq, Addr.mk.injEq, and_true, true_and] at h'
    obtain ⟨rfl, rfl⟩ := h'
    exact h3
theorem owns_turn {B e size k n cap : Nat} {xs : List Value} {w w' : World} {S : List Nat} (h : w.ownsRow B e size (.slice (some ⟨k, 0, none⟩) n cap) n xs) (ht : Turn S w w') (hk : k ∉ S) : w'.ownsRow B e size (.slice (some ⟨k, 0, none⟩) n cap) n xs := by
  refine ⟨h.1, ?_⟩
  rcases h.2 with ⟨h', _⟩ | ⟨g', cap', cur, h', h1, h2, h3⟩
  · simp at h'
  · refine .inr ⟨g', cap', cur, h', h1, ?_, h3⟩
    simp only [Value.slice.injEq, Option.some.injEq, Addr.mk.injEq, and_true, true_and] at h'
    obtain ⟨rfl, rfl⟩ := h'
    rw [ht.block k (Array.getElem?_eq_some_iff.1 h2).1 hk]; exact h2
theorem keep4 {w3 W : World} {b : Nat} {x : NodeV} (hb : b < w3.heap.size) (d0 : w3.cell? ⟨b, 0, none⟩ = some (.int .i64 x.kind)) (d1 : w3.cell? ⟨b, 1, none⟩ = some (.int .i64 x.num)) (d2 : w3.cell? ⟨b, 2, none⟩ = some (.string x.name)) (d3 : w3.cell? ⟨b, 3, none⟩ = some (.int .i64 x.kids)) (h : Turn [] w3 W) :
    W.cell? ⟨b, 0, none⟩ = some (.int .i64 x.kind) ∧ W.cell? ⟨b, 1, none⟩ = some (.int .i64 x.num) ∧ W.cell? ⟨b, 2, none⟩ = some (.string x.name) ∧ W.cell? ⟨b, 3, none⟩ = some (.int .i64 x.kids) :=
  ⟨(h.cell hb (by simp)).trans d0, (h.cell hb (by simp)).trans d1, (h.cell hb (by simp)).trans d2, (h.cell hb (by simp)).trans d3⟩
theorem spoil_app {base g p q B0 k k2 cap2 : Nat} {ns : List NodeV} {w w3 W : World} {x : NodeV} (hT : Turn [g, k] w w3) (hT2 : Turn [] w3 W) (hown : W.ownsRow B0 49 4 (.slice (some ⟨k2, 0, none⟩) (ns.length + 1) cap2) (ns.length + 1) (cellsL ns ++ cellsL [x])) (hR : RdIn base w3 g q) (hq1 : p ≤ q) (hq2 : q ≤ p + 10) (hx : x.name.size ≤ 16) (hsn : ShortNames ns) (hB : base ≤ B0) :
    RetSpoil base g p (ns.length + 1) [g, k] w (.returned (.slice (some ⟨k2, 0, none⟩) (ns.length + 1) cap2)) W := by
  rw [← cellsL_app] at hown
  have hl : (ns ++ [x]).length = ns.length + 1 := by simp
  have hrow : NodeRow B0 W k2 cap2 (ns ++ [x]) := by unfold NodeRow; rw [hl]; exact hown
  have hb := hrow.block
  exact ⟨k2, cap2, ns ++ [x], by rw [hl], hrow.nodesAt, hrow.room, hb.2, by omega, by omega, short_app hsn (short_one x hx), hT.trans (hT2.mono (by simp)), q, hq1, hq2, hR.turn hT2 (by simp) (by simp)⟩
theorem Turn.drew {S : List Nat} {a b : World} (h : Turn S a b) : Turn S a b.drew := h.dn 1
theorem spoil_post {base g p q B k cap j : Nat} {ns : List NodeV} {w W : World} {x : NodeV} (hT : Turn [g, k] w W) (hrow : NodeRow B W k cap ns) (hR : RdIn base W g q) (hq1 : p ≤ q) (hq2 : q ≤ p + 10) (hx : x.name.size ≤ 16) (hsn : ShortNames ns) (hB : base ≤ B) (hkg : k ≠ g) :
    RetSpoil base g p (ns.length + 1) [g, k] w (.returned (.slice (some ⟨k, 0, none⟩) ns.length cap))
      ((((W.setCell ⟨k, j * 4, none⟩ (.int .i64 x.kind)).setCell ⟨k, j * 4 + 1, none⟩ (.int .i64 x.num)).setCell ⟨k, j * 4 + 2, none⟩ (.string x.name)).setCell ⟨k, j * 4 + 3, none⟩ (.int .i64 x.kids)) := by
  have hkb := hrow.block
  have hT2 : Turn [k] W ((((W.setCell ⟨k, j * 4, none⟩ (.int .i64 x.kind)).setCell ⟨k, j * 4 + 1, none⟩ (.int .i64 x.num)).setCell ⟨k, j * 4 + 2, none⟩ (.string x.name)).setCell ⟨k, j * 4 + 3, none⟩ (.int .i64 x.kids)) :=
    ((((Turn.refl [k] W).setCell (by simp) _ _).setCell (by simp) _ _).setCell (by simp) _ _).setCell (by simp) _ _
  refine ⟨k, cap, ns.set j x, by simp, nodesAt_store hrow.nodesAt j x, by simpa using hrow.room, by simpa using hkb.2, by omega, by simp, short_set hsn j x hx, hT.trans (hT2.mono (by simp)), q, hq1, hq2, hR.turn hT2 (by simpa using hkg.symm) (by simp; omega)⟩

end Go.Proofs.YtjfebnplffpmoaaGreatDoor
