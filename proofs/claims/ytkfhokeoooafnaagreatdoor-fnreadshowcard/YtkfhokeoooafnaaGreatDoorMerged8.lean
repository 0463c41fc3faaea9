/-
  The other lists of nodes that the specification draws: sums, chains, wide and heavy trees.
-/
/-
  The specification's drawing of a body: one of four kinds of lists of nodes.
-/
/-
  The specification's drawing of a body, whole; and how one in ten is spoiled.
-/
import Derived.Test.YtkfhokeoooafnaaGreatDoorDrawTree
namespace Go.Proofs.YtkfhokeoooafnaaGreatDoor
open Go.RowKit Go.Maps Go.Deep

/-- the nodes so far, in a slice of the call's own, nil or not -/
def NodeVal (B : Nat) (w : World) (v : Value) (ns : List NodeV) : Prop := w.ownsRow B 51 4 v ns.length (cellsL ns)
theorem NodeVal.row {B : Nat} {w : World} {v : Value} {ns : List NodeV} (h : NodeVal B w v ns) (h0 : 1 ≤ ns.length) : ∃ k cap, v = .slice (some ⟨k, 0, none⟩) ns.length cap ∧ NodeRow B w k cap ns := NodeRow.of h h0
theorem NodeVal.turn {B : Nat} {w w' : World} {v : Value} {ns : List NodeV} {S : List Nat} (h : NodeVal B w v ns) (ht : Turn S w w') (hS : ∀ k ∈ S, k < B) : NodeVal B w' v ns := by
  refine ⟨h.1, ?_⟩
  rcases h.2 with h' | ⟨g', cap', cur, h', h1, h2, h3⟩
  · exact .inl h'
  · exact .inr ⟨g', cap', cur, h', h1, by rw [ht.block g' (Array.getElem?_eq_some_iff.1 h2).1 (fun hm => by have := hS g' hm; omega)]; exact h2, h3⟩
theorem NodeVal.own {B : Nat} {w : World} {v : Value} {ns : List NodeV} (h : NodeVal B w v ns) : ∀ k, v.ownBlock = some k → B ≤ k ∧ k < w.heap.size := World.ownsRow.lt h
theorem short_app {a b : List NodeV} (ha : ShortNames a) (hb : ShortNames b) : ShortNames (a ++ b) := by
  intro n hn
  rcases List.mem_append.1 hn with hn | hn
  · exact ha n hn
  · exact hb n hn
theorem short_one (x : NodeV) (h : x.name.size ≤ 16) : ShortNames [x] := by
  intro n hn
  simp at hn
  subst hn
  exact h
/-- what an append leaves: some list, as long as both, with short names -/
theorem NodeRow.join {B : Nat} {w : World} {v : Value} {n : Nat} {a b : List NodeV} (h : w.ownsRow B 51 4 v n (cellsL a ++ cellsL b)) (h0 : 1 ≤ n) (ha : ShortNames a) (hb : ShortNames b) :
    ∃ k cap ns, v = .slice (some ⟨k, 0, none⟩) ns.length cap ∧ NodeRow B w k cap ns ∧ ns.length = a.length + b.length ∧ ShortNames ns := by
  rw [← cellsL_app] at h
  obtain ⟨k, cap, rfl, hr⟩ := NodeRow.of h h0
  exact ⟨k, cap, a ++ b, rfl, hr, by simp, short_app ha hb⟩
theorem cells_row1 (w : World) (x : NodeV) : ∀ j u, (cellsL [x])[j]? = some u → (w.alloc (.cells #[.int .i64 x.kind, .int .i64 x.num, .string x.name, .int .i64 x.kids] 51)).cell? ((⟨w.heap.size, 0, none⟩ : Addr).add j) = some u :=
  (NodeRow.lit (B := 0) w [x] (Nat.zero_le _) (by simp)).news

def EvenSaid (n : Nat) : Prop := ∀ (w : World) (m : Int), m = (n : Int) → Calls Tryz.prog 57 #[.int .i64 m] w fun e w' => RetNodes w.heap.size (2 * n - 1) e w' ∧ Turn [] w w'

set_option maxHeartbeats 3200000 in
theorem even_one (n : Nat) (h1 : 1 ≤ n) (hn : n ≤ 1000) (ih : ∀ k, 1 ≤ k → k < n → EvenSaid k) : EvenSaid n := by
  intro w m hm
  have IH := hide ih
  clear ih
  have HM := hide hm
  have hm0 : m ≤ 1000 := by omega
  have hm1 : 1 ≤ m := by omega
  clear hm
  by_cases h2 : m ≤ 1
  · have HX := hide (NodeRow.lit (B := w.heap.size) w [⟨1, 1, ⟨#[]⟩, 0⟩] (Nat.le_refl _) (by simp))
    go_enter Tryz.func57, Tryz.ntmps57
    go_wp2_with fail
    go_ret
    exact ⟨⟨_, _, [⟨1, 1, ⟨#[]⟩, 0⟩], rfl, unhide HX, by simp, by have := unhide HM; simp; omega, short_one _ (show (⟨#[]⟩ : ByteArray).size ≤ 16 by decide)⟩, (Turn.refl _ _).alloc _⟩
  · obtain ⟨i0, hi, hz0, hz1, hz2⟩ := info_parts infoNode4
    have hA := NodeRow.lit (B := w.heap.size) w [⟨8, 0, ⟨#[]⟩, 2⟩] (Nat.le_refl _) (by simp)
    have HA := hide hA
    have HT0 := hide (show Turn [] w (w.alloc (.cells #[.int .i64 8, .int .i64 0, .string ⟨#[]⟩, .int .i64 2] 51)) from (Turn.refl _ _).alloc _)
    have hq1 : 0 ≤ m / 2 := by omega
    have hq2 : m / 2 ≤ 500 := by omega
    go_enter Tryz.func57, Tryz.ntmps57
    go_wp2_with fail
    refine (unhide IH (n / 2) (by have := unhide HM; omega) (by omega) _ _ (by have := unhide HM; omega)).mono ?_
    rintro e w2 ⟨⟨k2, cap2, ms, rfl, hrow2, hl1, hl2, hsn2⟩, ht2⟩
    have hrow := (unhide HA).turn ht2 (by simp)
    have hs2 := ht2.size
    have hnews := hrow2.news
    have HT2 := hide ((unhide HT0).trans ht2)
    simp at hs2
    clear ht2 hA
    go_wp2_with (first
      | (at_builtin; refine wpList_append_own _ rfl _ _ 23 rfl w.heap.size 51 i0 _ 4 40 Tryz.underlying23 hi hz0 hz1 hz2 rfl (by decide) (.slice (some ⟨w.heap.size, 0, none⟩) 1 1) 1 (cellsL [⟨8, 0, ⟨#[]⟩, 2⟩]) rfl hrow ⟨k2, 0, none⟩ ms.length cap2 (cellsL ms) rfl (cellsL_len ms) hnews (cellsL_one ms) (by unfold maxLen; omega) (by omega) (by omega) ?_; intro v3 w3 hown3 hgrow3 _))
    obtain ⟨k3, cap3, n3, rfl, hrow3, hn3, hsn3⟩ := NodeRow.join hown3 (show 1 ≤ 1 + ms.length by omega) (short_one _ (show (⟨#[]⟩ : ByteArray).size ≤ 16 by decide)) hsn2
    have hT3 := (unhide HT2).grown (show w2.grownBy w3 (some w.heap.size) from hgrow3) (fun x hx => by cases hx; exact .inr (Nat.le_refl _))
    have hs3 := hgrow3.size
    have HR3 := hide hrow3
    have HT3 := hide hT3
    have hn3' : n3.length ≤ 1 + ms.length := by simp at hn3; omega
    have hn3'' : 1 ≤ n3.length := by simp at hn3; omega
    have HSN3 := hide hsn3
    clear hown3 hgrow3 hrow hrow2 hnews hrow3 hT3 hn3 hsn3
    go_wp2_with fail
    refine (unhide IH (n - n / 2) (by omega) (by have := unhide HM; omega) _ _ (by have := unhide HM; omega)).mono ?_
    rintro e w4 ⟨⟨k4, cap4, ms4, rfl, hrow4, hl3, hl4, hsn4⟩, ht4⟩
    have hrow := (unhide HR3).turn ht4 (by simp)
    have hkb := hrow.block
    have hs4 := ht4.size
    have hnews := hrow4.news
    have HT4 := hide ((unhide HT3).trans ht4)
    clear ht4
    go_wp2_with (first
      | (at_builtin; refine wpList_append_own _ rfl _ _ 23 rfl w.heap.size 51 i0 _ 4 40 Tryz.underlying23 hi hz0 hz1 hz2 rfl (by decide) (.slice (some ⟨k3, 0, none⟩) n3.length cap3) n3.length (cellsL n3) rfl hrow ⟨k4, 0, none⟩ ms4.length cap4 (cellsL ms4) rfl (cellsL_len ms4) hnews (cellsL_one ms4) (by unfold maxLen; omega) (by omega) (by omega) ?_; intro v5 w5 hown5 hgrow5 _))
    obtain ⟨k5, cap5, n5, rfl, hrow5, hn5, hsn5⟩ := NodeRow.join hown5 (by omega) (unhide HSN3) hsn4
    have hT5 := (unhide HT4).grown (show w4.grownBy w5 (some k3) from hgrow5) (fun x hx => by cases hx; exact .inr hkb.1)
    have HX := hide (show RetNodes w.heap.size (2 * n - 1) (.returned (.slice (some ⟨k5, 0, none⟩) n5.length cap5)) w5 ∧ Turn [] w w5 from
      ⟨⟨k5, cap5, _, rfl, hrow5, by omega, by have := unhide HM; omega, hsn5⟩, hT5⟩)
    clear hown5 hgrow5 hrow5 hT5 hrow hnews hrow4
    go_wp2_with fail
    go_ret
    exact unhide HX
theorem l31Even_any (n : Nat) : 1 ≤ n → n ≤ 1000 → EvenSaid n := by
  induction n using Nat.strongRecOn with
  | ind n ih => intro h1 h2; exact even_one n h1 h2 (fun k hk hkn => ih k hkn hk (by omega))

theorem RdIn.grown {base : Nat} {w w' : World} {g p : Nat} {row : Option Nat} (h : RdIn base w g p) (hg : w.grownBy w' row) (hr : ∀ k, row = some k → k ≠ g ∧ base ≤ k) : RdIn base w' g p := by
  cases row with
  | none => exact h.turn (Turn.of_grown (S := []) hg (fun k hk => by cases hk)) (by simp) (by simp)
  | some k =>
    have := hr k rfl
    exact h.turn (Turn.of_grown (S := [k]) hg (fun x hx => by cases hx; exact .inl (by simp))) (by simp; exact fun e => this.1 e.symm) (by simp; exact this.2)
/-- what a draw hands back: nodes, and the reader further on -/
def RetDraw (base g p : Nat) (K C : Nat) (w : World) (e : Ending) (w' : World) : Prop := RetNodes w.heap.size K e w' ∧ Turn [g] w w' ∧ ∃ q, p ≤ q ∧ q ≤ p + C ∧ RdIn base w' g q

set_option maxHeartbeats 3200000 in
theorem l31Chain_any (w : World) (base g p : Nat) (n : Int) (hn1 : 1 ≤ n) (hn2 : n ≤ 1000) (hp : p ≤ 900000000000) (hr : RdIn base w g p) :
    Calls Tryz.prog 29 #[.pointer (some ⟨g, 0, none⟩), .int .i64 n] w fun e w' => RetDraw base g p 1000 1 w e w' := by
  have hgw := hr.lt
  have hgb := hr.above
  have HR := hide hr
  clear hr
  obtain ⟨i0, hi, hz0, hz1, hz2⟩ := info_parts infoNode4
  go_enter Tryz.func29, Tryz.ntmps29
  go_wp2_with fail
  refine (pick_any _ base g p 2 (by omega) (by omega) (by omega) (unhide HR)).mono ?_
  rintro e w1 ⟨v, rfl, hv0, hv1, hr1, ht1⟩
  have HR1 := hide hr1
  have HT1 := hide ht1
  have hs1 := ht1.size
  clear hr1 ht1
  go_wp2_with fail
  go_loopw [5, 7] (fun o i wr => ∃ (j : Nat) (ns : List NodeV), 1 ≤ j ∧ (j : Int) ≤ n ∧ i = .int .i64 j ∧ ns.length + 1 = j ∧ Hid (NodeVal w.heap.size wr o ns ∧ ShortNames ns ∧ RdIn base wr g (p + 1) ∧ Turn [g] w wr)) (fun _ i _ => (n - intOf i).toNat)
  case atStart => exact ⟨1, [], by omega, by omega, rfl, rfl, World.ownsRow_nil _ _ _ _, (fun _ h => absurd h (by simp)), unhide HR1, unhide HT1⟩
  case round =>
    obtain ⟨j, ns, hj1, hjn, rfl, hnl, HP⟩ := hrel
    have hob := (unhide HP).1.own
    have HOB := hide hob
    clear hob
    have hwr := (unhide HP).2.2.2.size
    by_cases hlt : (j : Int) < n
    · have hown := World.ownsRow.alloc (unhide HP).1 (.cells #[.int .i64 (3 + v), .int .i64 0, .string ⟨#[]⟩, .int .i64 1] 51)
      have hnews := cells_row1 wr ⟨3 + v, 0, ⟨#[]⟩, 1⟩
      simp only at hnews
      go_wp2_with (first
        | (at_builtin; refine wpList_append_own _ rfl _ _ 23 rfl w.heap.size 51 i0 _ 4 40 Tryz.underlying23 hi hz0 hz1 hz2 rfl (by decide) u5 ns.length (cellsL ns) rfl hown ⟨wr.heap.size, 0, none⟩ 1 1 (cellsL [⟨3 + v, 0, ⟨#[]⟩, 1⟩]) rfl rfl hnews (cellsL_one _) (by unfold maxLen; omega) (by omega) (by simp; omega) ?_; intro v3 w3 hown3 hgrow3 _))
      have hT3 := ((unhide HP).2.2.2.trans (Turn.of_alloc _ _ _)).grown hgrow3 (fun x hx => .inr (unhide HOB x hx).1)
      have hR3 := ((unhide HP).2.2.1.turn (Turn.of_alloc [] _ _) (by simp) (by simp)).grown hgrow3 (fun x hx => by have := unhide HOB x hx; omega)
      have hv3 : NodeVal w.heap.size w3 v3 (ns ++ [⟨3 + v, 0, ⟨#[]⟩, 1⟩]) := by unfold NodeVal; rw [cellsL_app]; simpa using hown3
      have HV := hide hv3
      have HT3 := hide hT3
      have HR3 := hide hR3
      clear hown hnews hown3 hgrow3 hT3 hR3 hv3
      go_roundw
      case rel => exact ⟨j + 1, ns ++ [⟨3 + v, 0, ⟨#[]⟩, 1⟩], by omega, by omega, by go_num, by simp; omega, unhide HV, short_app (unhide HP).2.1 (short_one _ (show (⟨#[]⟩ : ByteArray).size ≤ 16 by decide)), unhide HR3, unhide HT3⟩
      case measure => simp [intOf]; omega
    · have hown := World.ownsRow.alloc (unhide HP).1 (.cells #[.int .i64 1, .int .i64 3, .string ⟨#[]⟩, .int .i64 0] 51)
      have hnews := cells_row1 wr ⟨1, 3, ⟨#[]⟩, 0⟩
      simp only at hnews
      go_wp2_with (first
        | (at_builtin; refine wpList_append_own _ rfl _ _ 23 rfl w.heap.size 51 i0 _ 4 40 Tryz.underlying23 hi hz0 hz1 hz2 rfl (by decide) u5 ns.length (cellsL ns) rfl hown ⟨wr.heap.size, 0, none⟩ 1 1 (cellsL [⟨1, 3, ⟨#[]⟩, 0⟩]) rfl rfl hnews (cellsL_one _) (by unfold maxLen; omega) (by omega) (by simp; omega) ?_; intro v3 w3 hown3 hgrow3 _))
      have hT3 := ((unhide HP).2.2.2.trans (Turn.of_alloc _ _ _)).grown hgrow3 (fun x hx => .inr (unhide HOB x hx).1)
      have hR3 := ((unhide HP).2.2.1.turn (Turn.of_alloc [] _ _) (by simp) (by simp)).grown hgrow3 (fun x hx => by have := unhide HOB x hx; omega)
      obtain ⟨k5, cap5, n5, rfl, hrow5, hn5, hsn5⟩ := NodeRow.join hown3 (by omega) (unhide HP).2.1 (short_one _ (show (⟨#[]⟩ : ByteArray).size ≤ 16 by decide))
      have HX := hide (show RetDraw base g p 1000 1 w (.returned (.slice (some ⟨k5, 0, none⟩) n5.length cap5)) w3 from
        ⟨⟨k5, cap5, n5, rfl, hrow5, by simp at hn5; omega, by simp at hn5; omega, hsn5⟩, hT3, p + 1, by omega, by omega, hR3⟩)
      clear hown hnews hown3 hgrow3 hT3 hR3 hrow5
      go_wp2_with fail
      go_ret
      exact unhide HX

end Go.Proofs.YtkfhokeoooafnaaGreatDoor

namespace Go.Proofs.YtkfhokeoooafnaaGreatDoor
open Go.RowKit Go.Maps Go.Deep

theorem empty_short : (⟨#[]⟩ : ByteArray).size ≤ 16 := by decide
theorem x_short : (⟨#[120]⟩ : ByteArray).size ≤ 16 := by decide

set_option maxHeartbeats 3200000 in
theorem l31Wide_any (w : World) (base g p : Nat) (n : Nat) (hn1 : 1 ≤ n) (hn2 : n ≤ 1000) (m : Int) (hm : m = (n : Int)) (hr : RdIn base w g p) :
    Calls Tryz.prog 30 #[.pointer (some ⟨g, 0, none⟩), .int .i64 m] w fun e w' => RetDraw base g p 1010 0 w e w' := by
  have hgw := hr.lt
  have hgb := hr.above
  have HR := hide hr
  have HM := hide hm
  have hm1 : 1 ≤ m := by omega
  have hm2 : m ≤ 1000 := by omega
  clear hr hm
  obtain ⟨i0, hi, hz0, hz1, hz2⟩ := info_parts infoNode4
  go_enter Tryz.func30, Tryz.ntmps30
  go_wp2_with fail
  refine (l31Even_any ((n + 1) / 2) (by omega) (by omega) _ _ (by have := unhide HM; omega)).mono ?_
  rintro e w1 ⟨⟨k, cap, ns, rfl, hrow, hl1, hl2, hsn⟩, ht⟩
  have HROW := hide hrow
  have HT := hide ht
  have hs1 := ht.size
  have HSN := hide hsn
  clear hrow ht hsn
  by_cases he : m % 2 = 0
  · have he' : (m % 2 == 0) = true := by simp [he]
    clear he
    have hA := NodeRow.lit (B := w.heap.size) w1 [⟨3, 0, ⟨#[]⟩, 1⟩] hs1 (by simp)
    have hTA : Turn [] w1 (w1.alloc (.cells #[.int .i64 3, .int .i64 0, .string ⟨#[]⟩, .int .i64 1] 51)) := Turn.of_alloc _ _ _
    have hnews := ((unhide HROW).turn hTA (by simp)).news
    have HTA := hide hTA
    clear hTA
    go_wp2_with (first
      | (at_builtin; refine wpList_append_own _ rfl _ _ 23 rfl w.heap.size 51 i0 _ 4 40 Tryz.underlying23 hi hz0 hz1 hz2 rfl (by decide) (.slice (some ⟨w1.heap.size, 0, none⟩) 1 1) 1 (cellsL [⟨3, 0, ⟨#[]⟩, 1⟩]) rfl hA ⟨k, 0, none⟩ ns.length cap (cellsL ns) rfl (cellsL_len ns) hnews (cellsL_one ns) (by unfold maxLen; omega) (by omega) (by simp; omega) ?_; intro v3 w3 hown3 hgrow3 _))
    obtain ⟨k5, cap5, n5, rfl, hrow5, hn5, hsn5⟩ := NodeRow.join hown3 (by omega) (short_one _ empty_short) (unhide HSN)
    have hg3 : (w1.alloc (.cells #[.int .i64 3, .int .i64 0, .string ⟨#[]⟩, .int .i64 1] 51)).grownBy w3 (some w1.heap.size) := hgrow3
    have hT5 := ((unhide HT).trans (unhide HTA)).grown hg3 (fun x hx => by cases hx; exact .inr hs1)
    have HX := hide (show RetDraw base g p 1010 0 w (.returned (.slice (some ⟨k5, 0, none⟩) n5.length cap5)) w3 from
      ⟨⟨k5, cap5, n5, rfl, hrow5, by simp at hn5; omega, by simp at hn5; omega, hsn5⟩, hT5.mono (by simp), p, by omega, by omega, (unhide HR).turn hT5 (by simp) (by simp)⟩)
    clear hown3 hgrow3 hrow5 hT5 hA hnews hg3
    go_wp2_with fail
    go_ret
    exact unhide HX
  · have he' : (m % 2 == 0) = false := by simp [he]
    clear he
    have HX := hide (show RetDraw base g p 1010 0 w (.returned (.slice (some ⟨k, 0, none⟩) ns.length cap)) w1 from
      ⟨⟨k, cap, ns, rfl, unhide HROW, hl1, by omega, unhide HSN⟩, (unhide HT).mono (by simp), p, by omega, by omega, (unhide HR).turn (unhide HT) (by simp) (by simp)⟩)
    go_wp2_with fail
    go_ret
    exact unhide HX

/-- a block holds one node -/
def NodeCell (w : World) (b : Nat) (x : NodeV) : Prop := b < w.heap.size ∧ NodesAt w b 0 [x]
theorem NodeCell.cells {w : World} {b : Nat} {x : NodeV} (h : NodeCell w b x) : w.cell? ⟨b, 0, none⟩ = some (.int .i64 x.kind) ∧ w.cell? ⟨b, 1, none⟩ = some (.int .i64 x.num) ∧ w.cell? ⟨b, 2, none⟩ = some (.string x.name) ∧ w.cell? ⟨b, 3, none⟩ = some (.int .i64 x.kids) := by
  have := h.2 0 (by simp)
  simpa using this
theorem NodeCell.turn {w w' : World} {b : Nat} {x : NodeV} {S : List Nat} (h : NodeCell w b x) (ht : Turn S w w') (hb : b ∉ S) : NodeCell w' b x := by
  refine ⟨Nat.lt_of_lt_of_le h.1 ht.size, fun i hi => ?_⟩
  obtain ⟨a, b', c, d⟩ := h.2 i hi
  exact ⟨(ht.cell h.1 hb).trans a, (ht.cell h.1 hb).trans b', (ht.cell h.1 hb).trans c, (ht.cell h.1 hb).trans d⟩
theorem NodeCell.new (w : World) (x : NodeV) : NodeCell (w.alloc (.cells #[.int .i64 x.kind, .int .i64 x.num, .string x.name, .int .i64 x.kids] 51)) w.heap.size x :=
  ⟨by simp, (NodeRow.lit (B := 0) w [x] (Nat.zero_le _) (by simp)).nodesAt⟩

theorem NodeCell.new' (n : Nat) (w : World) (x : NodeV) (hn : n = w.heap.size) : NodeCell (w.alloc (.cells #[.int .i64 x.kind, .int .i64 x.num, .string x.name, .int .i64 x.kids] 51)) n x := by
  subst hn; exact NodeCell.new w x
theorem short3 {a b c : NodeV} (ha : a.name.size ≤ 16) (hb : b.name.size ≤ 16) (hc : c.name.size ≤ 16) : ShortNames [a, b, c] := short_app (short_one a ha) (short_app (short_one b hb) (short_one c hc))
def numN (v : Int) : NodeV := ⟨1, 60 + v, ⟨#[]⟩, 0⟩
def oneN : NodeV := ⟨1, 1, ⟨#[]⟩, 0⟩
def xN : NodeV := ⟨2, 0, ⟨#[120]⟩, 0⟩
def addN : NodeV := ⟨8, 0, ⟨#[]⟩, 2⟩
def repN : NodeV := ⟨23, 0, ⟨#[120]⟩, 3⟩
def letN : NodeV := ⟨22, 0, ⟨#[120]⟩, 2⟩

set_option maxHeartbeats 6400000 in
theorem l31Heavy_any (w : World) (base g p : Nat) (hp : p ≤ 900000000000) (hr : RdIn base w g p) :
    Calls Tryz.prog 31 #[.pointer (some ⟨g, 0, none⟩)] w fun e w' => RetDraw base g p 1010 2 w e w' := by
  have hgw := hr.lt
  have hgb := hr.above
  have HR := hide hr
  clear hr
  obtain ⟨i0, hi, hz0, hz1, hz2⟩ := info_parts infoNode4
  go_enter Tryz.func31, Tryz.ntmps31
  go_wp2_with fail
  refine (pick_any _ base g p 8 (by omega) (by omega) (by omega) (unhide HR)).mono ?_
  rintro e w1 ⟨v, rfl, hv0, hv1, hr1, ht1⟩
  have HR1 := hide hr1
  have HT1 := hide ht1
  have hs1 := ht1.size
  clear hr1 ht1
  have t1 : Turn [] w1 (w1.alloc (.cells #[.int .i64 1, .int .i64 (60 + v), .string ⟨#[]⟩, .int .i64 0] 51)) := Turn.of_alloc _ _ _
  have t2 : Turn [] (w1.alloc (.cells #[.int .i64 1, .int .i64 (60 + v), .string ⟨#[]⟩, .int .i64 0] 51)) ((w1.alloc (.cells #[.int .i64 1, .int .i64 (60 + v), .string ⟨#[]⟩, .int .i64 0] 51)).alloc (.cells #[.int .i64 1, .int .i64 1, .string ⟨#[]⟩, .int .i64 0] 51)) := Turn.of_alloc _ _ _
  have t3 : Turn [] ((w1.alloc (.cells #[.int .i64 1, .int .i64 (60 + v), .string ⟨#[]⟩, .int .i64 0] 51)).alloc (.cells #[.int .i64 1, .int .i64 1, .string ⟨#[]⟩, .int .i64 0] 51)) (((w1.alloc (.cells #[.int .i64 1, .int .i64 (60 + v), .string ⟨#[]⟩, .int .i64 0] 51)).alloc (.cells #[.int .i64 1, .int .i64 1, .string ⟨#[]⟩, .int .i64 0] 51)).alloc (.cells #[.int .i64 2, .int .i64 0, .string ⟨#[120]⟩, .int .i64 0] 51)) := Turn.of_alloc _ _ _
  have t4 : Turn [] (((w1.alloc (.cells #[.int .i64 1, .int .i64 (60 + v), .string ⟨#[]⟩, .int .i64 0] 51)).alloc (.cells #[.int .i64 1, .int .i64 1, .string ⟨#[]⟩, .int .i64 0] 51)).alloc (.cells #[.int .i64 2, .int .i64 0, .string ⟨#[120]⟩, .int .i64 0] 51)) ((((w1.alloc (.cells #[.int .i64 1, .int .i64 (60 + v), .string ⟨#[]⟩, .int .i64 0] 51)).alloc (.cells #[.int .i64 1, .int .i64 1, .string ⟨#[]⟩, .int .i64 0] 51)).alloc (.cells #[.int .i64 2, .int .i64 0, .string ⟨#[120]⟩, .int .i64 0] 51)).alloc (.cells #[.int .i64 8, .int .i64 0, .string ⟨#[]⟩, .int .i64 2, .int .i64 2, .int .i64 0, .string ⟨#[120]⟩, .int .i64 0, .int .i64 1, .int .i64 1, .string ⟨#[]⟩, .int .i64 0] 51)) := Turn.of_alloc _ _ _
  have HN1 := hide (((((NodeCell.new' w1.heap.size w1 (numN v) rfl)).turn t2 (by simp)).turn t3 (by simp)).turn t4 (by simp))
  have HN2 := hide ((((NodeCell.new' (w1.heap.size + 1) (w1.alloc (.cells #[.int .i64 1, .int .i64 (60 + v), .string ⟨#[]⟩, .int .i64 0] 51)) oneN (by simp))).turn t3 (by simp)).turn t4 (by simp))
  have HN3 := hide (((NodeCell.new' (w1.heap.size + 1 + 1) ((w1.alloc (.cells #[.int .i64 1, .int .i64 (60 + v), .string ⟨#[]⟩, .int .i64 0] 51)).alloc (.cells #[.int .i64 1, .int .i64 1, .string ⟨#[]⟩, .int .i64 0] 51)) xN (by simp))).turn t4 (by simp))
  have HROW := hide (NodeRow.lit' (B := w.heap.size) (w1.heap.size + 1 + 1 + 1) (((w1.alloc (.cells #[.int .i64 1, .int .i64 (60 + v), .string ⟨#[]⟩, .int .i64 0] 51)).alloc (.cells #[.int .i64 1, .int .i64 1, .string ⟨#[]⟩, .int .i64 0] 51)).alloc (.cells #[.int .i64 2, .int .i64 0, .string ⟨#[120]⟩, .int .i64 0] 51)) [addN, xN, oneN] (by simp) (by simp; omega) (by simp))
  have HT4 := hide ((unhide HT1).trans ((t1.trans (t2.trans (t3.trans t4))).mono (by simp)))
  have HR4 := hide ((unhide HR1).turn (t1.trans (t2.trans (t3.trans t4))) (by simp) (by simp))
  clear t1 t2 t3 t4
  go_wp2_with fail
  refine (pick_any _ base g (p + 1) 3 (by omega) (by omega) (by omega) (unhide HR4)).mono ?_
  rintro e w5 ⟨u, rfl, hu0, hu1, hr5, ht5⟩
  have HR5 := hide hr5
  have HT5 := hide ((unhide HT4).trans ht5)
  have HM1 := hide ((unhide HN1).turn ht5 (by simp; omega))
  have HM2 := hide ((unhide HN2).turn ht5 (by simp; omega))
  have HM3 := hide ((unhide HN3).turn ht5 (by simp; omega))
  have HROW5 := hide ((unhide HROW).turn ht5 (by simp; omega))
  have hs5 := ht5.size
  simp at hs5
  clear hr5 ht5
  go_wp2_with fail
  go_loopw [6, 8] (fun o i wr => ∃ (j k cap : Nat) (ns : List NodeV), (j : Int) ≤ 1 + u ∧ i = .int .i64 j ∧ o = .slice (some ⟨k, 0, none⟩) ns.length cap ∧ 1 ≤ ns.length ∧ ns.length ≤ 3 + 3 * j ∧ Hid (NodeRow w.heap.size wr k cap ns ∧ ShortNames ns ∧ RdIn base wr g (p + 1 + 1) ∧ Turn [g] w wr ∧ NodeCell wr w1.heap.size (numN v) ∧ NodeCell wr (w1.heap.size + 1) oneN ∧ NodeCell wr (w1.heap.size + 1 + 1) xN)) (fun _ i _ => (1 + u - intOf i).toNat)
  case atStart => exact ⟨0, _, _, [addN, xN, oneN], by omega, rfl, rfl, by simp, by simp, unhide HROW5, short3 empty_short x_short empty_short, unhide HR5, unhide HT5, unhide HM1, unhide HM2, unhide HM3⟩
  case round =>
    obtain ⟨j, k, cap, ns, hj, rfl, rfl, hn1, hn2, HP⟩ := hrel
    obtain ⟨hrow, hsn, hrd, htn, m1, m2, m3⟩ := unhide HP
    have hkb := hrow.block
    have hwr := htn.size
    have b1 := m1.1
    have b2 := m2.1
    have b3 := m3.1
    by_cases hlt : (j : Int) < 1 + u
    · obtain ⟨x0, x1, x2, x3⟩ := m1.cells
      obtain ⟨y0, y1, y2, y3⟩ := m3.cells
      simp only [numN, xN] at x0 x1 x2 x3 y0 y1 y2 y3
      have hA := NodeRow.lit (B := w.heap.size) wr [repN, numN v, xN] hwr (by simp)
      have hTA : Turn [] wr (wr.alloc (.cells #[.int .i64 23, .int .i64 0, .string ⟨#[120]⟩, .int .i64 3, .int .i64 1, .int .i64 (60 + v), .string ⟨#[]⟩, .int .i64 0, .int .i64 2, .int .i64 0, .string ⟨#[120]⟩, .int .i64 0] 51)) := Turn.of_alloc _ _ _
      have hnews := (hrow.turn hTA (by simp)).news
      have HTA := hide hTA
      clear hTA hrow hsn hrd htn m1 m2 m3
      go_wp2_with (first
        | (at_builtin; refine wpList_append_own _ rfl _ _ 23 rfl w.heap.size 51 i0 _ 4 40 Tryz.underlying23 hi hz0 hz1 hz2 rfl (by decide) (.slice (some ⟨wr.heap.size, 0, none⟩) 3 3) 3 (cellsL [repN, numN v, xN]) rfl hA ⟨k, 0, none⟩ ns.length cap (cellsL ns) rfl (cellsL_len ns) hnews (cellsL_one ns) (by unfold maxLen; omega) (by omega) (by simp; omega) ?_; intro v3 w3 hown3 hgrow3 _))
      obtain ⟨k5, cap5, n5, rfl, hrow5, hn5, hsn5⟩ := NodeRow.join hown3 (by omega) (short3 x_short empty_short x_short) (unhide HP).2.1
      have hg3 : (wr.alloc (.cells #[.int .i64 23, .int .i64 0, .string ⟨#[120]⟩, .int .i64 3, .int .i64 1, .int .i64 (60 + v), .string ⟨#[]⟩, .int .i64 0, .int .i64 2, .int .i64 0, .string ⟨#[120]⟩, .int .i64 0] 51)).grownBy w3 (some wr.heap.size) := hgrow3
      have hG : Turn [wr.heap.size] (wr.alloc (.cells #[.int .i64 23, .int .i64 0, .string ⟨#[120]⟩, .int .i64 3, .int .i64 1, .int .i64 (60 + v), .string ⟨#[]⟩, .int .i64 0, .int .i64 2, .int .i64 0, .string ⟨#[120]⟩, .int .i64 0] 51)) w3 := Turn.of_grown hg3 (fun x hx => by cases hx; exact .inl (by simp))
      have hT5 := ((unhide HP).2.2.2.1.trans ((unhide HTA).mono (by simp))).grown hg3 (fun x hx => by cases hx; exact .inr hwr)
      have hR5 := ((unhide HP).2.2.1.turn (unhide HTA) (by simp) (by simp)).grown hg3 (fun x hx => by cases hx; exact ⟨by omega, by omega⟩)
      have z1 := ((unhide HP).2.2.2.2.1.turn (unhide HTA) (by simp)).turn hG (by simp; omega)
      have z2 := ((unhide HP).2.2.2.2.2.1.turn (unhide HTA) (by simp)).turn hG (by simp; omega)
      have z3 := ((unhide HP).2.2.2.2.2.2.turn (unhide HTA) (by simp)).turn hG (by simp; omega)
      have HX := hide (And.intro hrow5 (And.intro hsn5 (And.intro hR5 (And.intro hT5 (And.intro z1 (And.intro z2 z3))))))
      have hn5' : n5.length = 3 + ns.length := by simpa using hn5
      clear hown3 hgrow3 hrow5 hT5 hA hnews hg3 hG hR5 z1 z2 z3 hsn5 hn5 x0 x1 x2 x3 y0 y1 y2 y3
      go_roundw
      case rel => exact ⟨j + 1, k5, cap5, n5, by omega, by go_num, rfl, by omega, by omega, unhide HX⟩
      case measure => simp [intOf]; omega
    · obtain ⟨y0, y1, y2, y3⟩ := m2.cells
      simp only [oneN] at y0 y1 y2 y3
      have hA := NodeRow.lit (B := w.heap.size) wr [letN, oneN] hwr (by simp)
      have hTA : Turn [] wr (wr.alloc (.cells #[.int .i64 22, .int .i64 0, .string ⟨#[120]⟩, .int .i64 2, .int .i64 1, .int .i64 1, .string ⟨#[]⟩, .int .i64 0] 51)) := Turn.of_alloc _ _ _
      have hnews := (hrow.turn hTA (by simp)).news
      have HTA := hide hTA
      clear hTA hrow hsn hrd htn m1 m2 m3
      go_wp2_with (first
        | (at_builtin; refine wpList_append_own _ rfl _ _ 23 rfl w.heap.size 51 i0 _ 4 40 Tryz.underlying23 hi hz0 hz1 hz2 rfl (by decide) (.slice (some ⟨wr.heap.size, 0, none⟩) 2 2) 2 (cellsL [letN, oneN]) rfl hA ⟨k, 0, none⟩ ns.length cap (cellsL ns) rfl (cellsL_len ns) hnews (cellsL_one ns) (by unfold maxLen; omega) (by omega) (by simp; omega) ?_; intro v3 w3 hown3 hgrow3 _))
      obtain ⟨k5, cap5, n5, rfl, hrow5, hn5, hsn5⟩ := NodeRow.join hown3 (by omega) (short_app (short_one letN x_short) (short_one oneN empty_short)) (unhide HP).2.1
      have hg3 : (wr.alloc (.cells #[.int .i64 22, .int .i64 0, .string ⟨#[120]⟩, .int .i64 2, .int .i64 1, .int .i64 1, .string ⟨#[]⟩, .int .i64 0] 51)).grownBy w3 (some wr.heap.size) := hgrow3
      have hT5 := ((unhide HP).2.2.2.1.trans ((unhide HTA).mono (by simp))).grown hg3 (fun x hx => by cases hx; exact .inr hwr)
      have hR5 := ((unhide HP).2.2.1.turn (unhide HTA) (by simp) (by simp)).grown hg3 (fun x hx => by cases hx; exact ⟨by omega, by omega⟩)
      have hn5' : n5.length = 2 + ns.length := by simpa using hn5
      have HX := hide (show RetDraw base g p 1010 2 w (.returned (.slice (some ⟨k5, 0, none⟩) n5.length cap5)) w3 from
        ⟨⟨k5, cap5, n5, rfl, hrow5, by omega, by omega, hsn5⟩, hT5, p + 1 + 1, by omega, by omega, hR5⟩)
      clear hown3 hgrow3 hrow5 hT5 hA hnews hg3 hR5 hsn5 hn5 y0 y1 y2 y3
      go_wp2_with fail
      go_ret
      exact unhide HX

end Go.Proofs.YtkfhokeoooafnaaGreatDoor

namespace Go.Proofs.YtkfhokeoooafnaaGreatDoor
open Go.RowKit Go.Maps Go.Deep

theorem Turn.join {S S' : List Nat} {a b c : World} (h : Turn S a b) (k : Turn S' b c) (hS : ∀ x ∈ S', x ∈ S ∨ a.heap.size ≤ x) : Turn S a c :=
  ⟨k.os.trans h.os, k.tape.trans h.tape, k.output.trans h.output, Nat.le_trans h.size k.size,
    fun i hi hm => (k.block i (Nat.lt_of_lt_of_le hi h.size) (fun e => (hS i e).elim hm (fun e => by omega))).trans (h.block i hi hm)⟩
theorem RetDraw.weaken {base g p q K C K' C' : Nat} {w w0 : World} {e : Ending} {w' : World} (h : RetDraw base g q K C w e w') (ht : Turn [g] w0 w) (hK : K ≤ K') (hpq : p ≤ q) (hC : q + C ≤ p + C') : RetDraw base g p K' C' w0 e w' := by
  obtain ⟨⟨k, cap, ns, rfl, hrow, h1, h2, h3⟩, ht2, q2, hq1, hq2, hr⟩ := h
  exact ⟨⟨k, cap, ns, rfl, hrow.mono ht.size, h1, by omega, h3⟩, ht.trans ht2, q2, by omega, by omega, hr⟩

set_option maxHeartbeats 6400000 in
theorem l31Body_any (w : World) (base g p : Nat) (hp : p ≤ 100000000000) (hr : RdIn base w g p) :
    Calls Tryz.prog 15 #[.pointer (some ⟨g, 0, none⟩)] w fun e w' => RetDraw base g p 10000 70000 w e w' := by
  have hgw := hr.lt
  have hgb := hr.above
  have HR := hide hr
  clear hr
  go_enter Tryz.func15, Tryz.ntmps15
  go_wp2_with fail
  refine (pick_any _ base g p 40 (by omega) (by omega) (by omega) (unhide HR)).mono ?_
  rintro e w1 ⟨v, rfl, hv0, hv1, hr1, ht1⟩
  have hs1 := ht1.size
  have hTA : Turn [] w1 (w1.alloc (.cells #[.int .i64 (10 + v)] 3)) := Turn.of_alloc _ _ _
  have HR1 := hide (hr1.turn hTA (by simp) (by simp))
  have HT1 := hide (ht1.trans (hTA.mono (by simp)))
  clear hr1 ht1 hTA
  go_wp2_with fail
  refine (pick_any _ base g (p + 1) 7 (by omega) (by omega) (by omega) (unhide HR1)).mono ?_
  rintro e w2 ⟨u, rfl, hu0, hu1, hr2, ht2⟩
  have hs2 := ht2.size
  simp at hs2
  have hcl : w2.cell? ⟨w1.heap.size, 0, none⟩ = some (.int .i64 (10 + v)) := (ht2.cell (by simp) (by simp; omega)).trans (World.cell?_alloc_at _ _ _ _ rfl)
  have hfl : w2.frozen? ⟨w1.heap.size, 0, none⟩ = false := (ht2.frozen (by simp) (by simp; omega)).trans (World.frozen?_alloc_at _ _ _ _ rfl)
  have HT2 := hide ((unhide HT1).trans ht2)
  obtain ⟨d, hd⟩ := Int.eq_ofNat_of_zero_le (show 0 ≤ 2 + u by omega)
  have hd8 : d ≤ 8 := by omega
  have hNd := nN_le d hd8
  have hNp := nN_pos d
  have HC := hide (l31Tree_any d (by omega) w2 base g w1.heap.size (p + 1 + 1) (10 + v) hr2 (by omega) (by omega) (by omega) (by omega) hcl hfl (by omega) (by omega))
  rw [← hd] at HC
  clear hr2 ht2 hcl hfl hd
  go_wp2_with fail
  refine (unhide HC).mono ?_
  rintro e w3 ⟨⟨k, cap, ns, rfl, hrow, hn1, hn2, hsn⟩, q, L', hq1, hq2, hr3, _, _, _, _, ht3⟩
  have HT3 := hide ((unhide HT2).join ht3 (by simp; omega))
  have HR3 := hide hr3
  have HROW := hide (And.intro hrow hsn)
  have hs3 := ht3.size
  clear hr3 ht3 hrow hsn HC
  go_wp2_with fail
  refine (pick_any _ base g q 40 (by omega) (by omega) (by omega) (unhide HR3)).mono ?_
  rintro e w4 ⟨z, rfl, hz0, hz1, hr4, ht4⟩
  have hkb := (unhide HROW).1.block
  have HT4 := hide ((unhide HT3).trans ht4)
  have HROW4 := hide (And.intro ((unhide HROW).1.turn ht4 (by simp; omega)) (unhide HROW).2)
  have HR4 := hide hr4
  have hs4 := ht4.size
  clear hr4 ht4
  by_cases e0 : z = 0
  · have e0' : (z == 0) = true := by simp [e0]
    clear e0
    go_wp2_with fail
    refine (pick_any _ base g (q + 1) 4 (by omega) (by omega) (by omega) (unhide HR4)).mono ?_
    rintro e w5 ⟨y, rfl, hy0, hy1, hr5, ht5⟩
    have HT5 := hide ((unhide HT4).trans ht5)
    have HR5 := hide hr5
    clear hr5 ht5
    go_wp2_with fail
    refine (l31Chain_any _ base g (q + 1 + 1) _ (by omega) (by omega) (by omega) (unhide HR5)).mono ?_
    intro e w6 hret
    have HX := hide (hret.weaken (p := p) (K' := 10000) (C' := 70000) (unhide HT5) (by omega) (by omega) (by omega))
    obtain ⟨⟨k6, cap6, n6, rfl, _⟩, _⟩ := hret
    go_wp2_with fail
    go_ret
    exact unhide HX
  · have e0' : (z == 0) = false := by simp [e0]
    clear e0
    by_cases e1 : z = 1
    · have e1' : (z == 1) = true := by simp [e1]
      clear e1
      go_wp2_with fail
      refine (pick_any _ base g (q + 1) 5 (by omega) (by omega) (by omega) (unhide HR4)).mono ?_
      rintro e w5 ⟨y, rfl, hy0, hy1, hr5, ht5⟩
      have HT5 := hide ((unhide HT4).trans ht5)
      have HR5 := hide hr5
      clear hr5 ht5
      go_wp2_with fail
      refine (l31Wide_any _ base g (q + 1 + 1) (398 + y).toNat (by omega) (by omega) _ (by omega) (unhide HR5)).mono ?_
      intro e w6 hret
      have HX := hide (hret.weaken (p := p) (K' := 10000) (C' := 70000) (unhide HT5) (by omega) (by omega) (by omega))
      obtain ⟨⟨k6, cap6, n6, rfl, _⟩, _⟩ := hret
      go_wp2_with fail
      go_ret
      exact unhide HX
    · have e1' : (z == 1) = false := by simp [e1]
      clear e1
      by_cases e2 : z = 2
      · have e2' : (z == 2) = true := by simp [e2]
        clear e2
        go_wp2_with fail
        refine (l31Heavy_any _ base g (q + 1) (by omega) (unhide HR4)).mono ?_
        intro e w6 hret
        have HX := hide (hret.weaken (p := p) (K' := 10000) (C' := 70000) (unhide HT4) (by omega) (by omega) (by omega))
        obtain ⟨⟨k6, cap6, n6, rfl, _⟩, _⟩ := hret
        go_wp2_with fail
        go_ret
        exact unhide HX
      · have e2' : (z == 2) = false := by simp [e2]
        clear e2
        have HX := hide (show RetDraw base g p 10000 70000 w (.returned (.slice (some ⟨k, 0, none⟩) ns.length cap)) w4 from
          ⟨⟨k, cap, ns, rfl, (unhide HROW4).1.mono (by omega), hn1, by omega, (unhide HROW4).2⟩, unhide HT4, q + 1, by omega, by omega, unhide HR4⟩)
        go_wp2_with fail
        go_ret
        exact unhide HX

end Go.Proofs.YtkfhokeoooafnaaGreatDoor
