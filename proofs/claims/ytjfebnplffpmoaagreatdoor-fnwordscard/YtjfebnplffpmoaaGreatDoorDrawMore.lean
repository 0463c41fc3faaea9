/-
  The other lists of nodes that the specification draws: sums, chains, wide and heavy trees.
-/
import Derived.Test.YtjfebnplffpmoaaGreatDoorDrawTree
namespace Go.Proofs.YtjfebnplffpmoaaGreatDoor
open Go.RowKit Go.Maps Go.Deep

/-- the nodes so far, in a slice of the call's own, nil or not -/
def NodeVal (B : Nat) (w : World) (v : Value) (ns : List NodeV) : Prop := w.ownsRow B 49 4 v ns.length (cellsL ns)
theorem NodeVal.row {B : Nat} {w : World} {v : Value} {ns : List NodeV} (h : NodeVal B w v ns) (h0 : 1 ≤ ns.length) : ∃ k cap, v = .slice (some ⟨k, 0, none⟩) ns.length cap ∧ NodeRow B w k cap ns := NodeRow.of h h0
theorem NodeVal.turn {B : Nat} {w w' : World} {v : Value} {ns : List NodeV} {S : List Nat} (h : NodeVal B w v ns) (ht : Turn S w w') (hS : ∀ k ∈ S, k < B) : NodeVal B w' v ns := by
  refine ⟨h.1, ?_⟩
  rcases h.2 with h' | ⟨g', cap', cur, h', h1, h2, h3⟩
  · exact .inl h'
  · exact .inr ⟨g', cap', cur, h', h1, by rw [ht.block g' (Array.getElem?_eq_some_iff.1 h2).1 (fun hm => by have := hS g' hm; omega)]; exact h2, h3⟩
theorem NodeVal.own {B : Nat} {w : World} {v : Value} {ns : List NodeV} (h : NodeVal B w v ns) : ∀ k, v.ownBlock = some k → B ≤ k ∧ k < w.heap.size := World.ownsRow.lt h
theorem short_app {a b : List NodeV} (ha : ShortNames a) (hb : ShortNames b) : ShortNames (a ++ b) := by
  intro n hn
  rcases List.mem_append.1 hn with hn | hn
  · exact ha n hn
  · exact hb n hn
theorem short_one (x : NodeV) (h : x.name.size ≤ 16) : ShortNames [x] := by
  intro n hn
  simp at hn
  subst hn
  exact h
/-- what an append leaves: some list, as long as both, with short names -/
theorem NodeRow.join {B : Nat} {w : World} {v : Value} {n : Nat} {a b : List NodeV} (h : w.ownsRow B 49 4 v n (cellsL a ++ cellsL b)) (h0 : 1 ≤ n) (ha : ShortNames a) (hb : ShortNames b) :
    ∃ k cap ns, v = .slice (some ⟨k, 0, none⟩) ns.length cap ∧ NodeRow B w k cap ns ∧ ns.length = a.length + b.length ∧ ShortNames ns := by
  rw [← cellsL_app] at h
  obtain ⟨k, cap, rfl, hr⟩ := NodeRow.of h h0
  exact ⟨k, cap, a ++ b, rfl, hr, by simp, short_app ha hb⟩
theorem cells_row1 (w : World) (x : NodeV) : ∀ j u, (cellsL [x])[j]? = some u → (w.alloc (.cells #[.int .i64 x.kind, .int .i64 x.num, .string x.name, .int .i64 x.kids] 49)).cell? ((⟨w.heap.size, 0, none⟩ : Addr).add j) = some u :=
  (NodeRow.lit (B := 0) w [x] (Nat.zero_le _) (by simp)).news

def EvenSaid (n : Nat) : Prop := ∀ (w : World) (m : Int), m = (n : Int) → Calls Tryz.prog 62 #[.int .i64 m] w fun e w' => RetNodes w.heap.size (2 * n - 1) e w' ∧ Turn [] w w'

set_option maxHeartbeats 3200000 in
theorem even_one (n : Nat) (h1 : 1 ≤ n) (hn : n ≤ 1000) (ih : ∀ k, 1 ≤ k → k < n → EvenSaid k) : EvenSaid n := by
  intro w m hm
  have IH := hide ih
  clear ih
  have HM := hide hm
  have hm0 : m ≤ 1000 := by omega
  have hm1 : 1 ≤ m := by omega
  clear hm
  by_cases h2 : m ≤ 1
  · have HX := hide (NodeRow.lit (B := w.heap.size) w [⟨1, 1, ⟨#[]⟩, 0⟩] (Nat.le_refl _) (by simp))
    go_enter Tryz.func62, Tryz.ntmps62
    go_wp2_with fail
    go_ret
    exact ⟨⟨_, _, [⟨1, 1, ⟨#[]⟩, 0⟩], rfl, unhide HX, by simp, by have := unhide HM; simp; omega, short_one _ (show (⟨#[]⟩ : ByteArray).size ≤ 16 by decide)⟩, (Turn.refl _ _).alloc _⟩
  · obtain ⟨i0, hi, hz0, hz1, hz2⟩ := info_parts infoNode4
    have hA := NodeRow.lit (B := w.heap.size) w [⟨8, 0, ⟨#[]⟩, 2⟩] (Nat.le_refl _) (by simp)
    have HA := hide hA
    have HT0 := hide (show Turn [] w (w.alloc (.cells #[.int .i64 8, .int .i64 0, .string ⟨#[]⟩, .int .i64 2] 49)) from (Turn.refl _ _).alloc _)
    have hq1 : 0 ≤ m / 2 := by omega
    have hq2 : m / 2 ≤ 500 := by omega
    go_enter Tryz.func62, Tryz.ntmps62
    go_wp2_with fail
    refine (unhide IH (n / 2) (by have := unhide HM; omega) (by omega) _ _ (by have := unhide HM; omega)).mono ?_
    rintro e w2 ⟨⟨k2, cap2, ms, rfl, hrow2, hl1, hl2, hsn2⟩, ht2⟩
    have hrow := (unhide HA).turn ht2 (by simp)
    have hs2 := ht2.size
    have hnews := hrow2.news
    have HT2 := hide ((unhide HT0).trans ht2)
    simp at hs2
    clear ht2 hA
    go_wp2_with (first
      | (at_builtin; refine wpList_append_own _ rfl _ _ 31 rfl w.heap.size 49 i0 _ 4 40 Tryz.underlying31 hi hz0 hz1 hz2 rfl (by decide) (.slice (some ⟨w.heap.size, 0, none⟩) 1 1) 1 (cellsL [⟨8, 0, ⟨#[]⟩, 2⟩]) rfl hrow ⟨k2, 0, none⟩ ms.length cap2 (cellsL ms) rfl (cellsL_len ms) hnews (cellsL_one ms) (by unfold maxLen; omega) (by omega) (by omega) ?_; intro v3 w3 hown3 hgrow3 _))
    obtain ⟨k3, cap3, n3, rfl, hrow3, hn3, hsn3⟩ := NodeRow.join hown3 (show 1 ≤ 1 + ms.length by omega) (short_one _ (show (⟨#[]⟩ : ByteArray).size ≤ 16 by decide)) hsn2
    have hT3 := (unhide HT2).grown (show w2.grownBy w3 (some w.heap.size) from hgrow3) (fun x hx => by cases hx; exact .inr (Nat.le_refl _))
    have hs3 := hgrow3.size
    have HR3 := hide hrow3
    have HT3 := hide hT3
    have hn3' : n3.length ≤ 1 + ms.length := by simp at hn3; omega
    have hn3'' : 1 ≤ n3.length := by simp at hn3; omega
    have HSN3 := hide hsn3
    clear hown3 hgrow3 hrow hrow2 hnews hrow3 hT3 hn3 hsn3
    go_wp2_with fail
    refine (unhide IH (n - n / 2) (by omega) (by have := unhide HM; omega) _ _ (by have := unhide HM; omega)).mono ?_
    rintro e w4 ⟨⟨k4, cap4, ms4, rfl, hrow4, hl3, hl4, hsn4⟩, ht4⟩
    have hrow := (unhide HR3).turn ht4 (by simp)
    have hkb := hrow.block
    have hs4 := ht4.size
    have hnews := hrow4.news
    have HT4 := hide ((unhide HT3).trans ht4)
    clear ht4
    go_wp2_with (first
      | (at_builtin; refine wpList_append_own _ rfl _ _ 31 rfl w.heap.size 49 i0 _ 4 40 Tryz.underlying31 hi hz0 hz1 hz2 rfl (by decide) (.slice (some ⟨k3, 0, none⟩) n3.length cap3) n3.length (cellsL n3) rfl hrow ⟨k4, 0, none⟩ ms4.length cap4 (cellsL ms4) rfl (cellsL_len ms4) hnews (cellsL_one ms4) (by unfold maxLen; omega) (by omega) (by omega) ?_; intro v5 w5 hown5 hgrow5 _))
    obtain ⟨k5, cap5, n5, rfl, hrow5, hn5, hsn5⟩ := NodeRow.join hown5 (by omega) (unhide HSN3) hsn4
    have hT5 := (unhide HT4).grown (show w4.grownBy w5 (some k3) from hgrow5) (fun x hx => by cases hx; exact .inr hkb.1)
    have HX := hide (show RetNodes w.heap.size (2 * n - 1) (.returned (.slice (some ⟨k5, 0, none⟩) n5.length cap5)) w5 ∧ Turn [] w w5 from
      ⟨⟨k5, cap5, _, rfl, hrow5, by omega, by have := unhide HM; omega, hsn5⟩, hT5⟩)
    clear hown5 hgrow5 hrow5 hT5 hrow hnews hrow4
    go_wp2_with fail
    go_ret
    exact unhide HX
theorem l31Even_any (n : Nat) : 1 ≤ n → n ≤ 1000 → EvenSaid n := by
  induction n using Nat.strongRecOn with
  | ind n ih => intro h1 h2; exact even_one n h1 h2 (fun k hk hkn => ih k hkn hk (by omega))

theorem RdIn.grown {base : Nat} {w w' : World} {g p : Nat} {row : Option Nat} (h : RdIn base w g p) (hg : w.grownBy w' row) (hr : ∀ k, row = some k → k ≠ g ∧ base ≤ k) : RdIn base w' g p := by
  cases row with
  | none => exact h.turn (Turn.of_grown (S := []) hg (fun k hk => by cases hk)) (by simp) (by simp)
  | some k =>
    have := hr k rfl
    exact h.turn (Turn.of_grown (S := [k]) hg (fun x hx => by cases hx; exact .inl (by simp))) (by simp; exact fun e => this.1 e.symm) (by simp; exact this.2)
/-- what a draw hands back: nodes, and the reader further on -/
def RetDraw (base g p : Nat) (K C : Nat) (w : World) (e : Ending) (w' : World) : Prop := RetNodes w.heap.size K e w' ∧ Turn [g] w w' ∧ ∃ q, p ≤ q ∧ q ≤ p + C ∧ RdIn base w' g q

set_option maxHeartbeats 3200000 in
theorem l31Chain_any (w : World) (base g p : Nat) (n : Int) (hn1 : 1 ≤ n) (hn2 : n ≤ 1000) (hp : p ≤ 900000000000) (hr : RdIn base w g p) :
    Calls Tryz.prog 35 #[.pointer (some ⟨g, 0, none⟩), .int .i64 n] w fun e w' => RetDraw base g p 1000 1 w e w' := by
  have hgw := hr.lt
  have hgb := hr.above
  have HR := hide hr
  clear hr
  obtain ⟨i0, hi, hz0, hz1, hz2⟩ := info_parts infoNode4
  go_enter Tryz.func35, Tryz.ntmps35
  go_wp2_with fail
  refine (pick_any _ base g p 2 (by omega) (by omega) (by omega) (unhide HR)).mono ?_
  rintro e w1 ⟨v, rfl, hv0, hv1, hr1, ht1⟩
  have HR1 := hide hr1
  have HT1 := hide ht1
  have hs1 := ht1.size
  clear hr1 ht1
  go_wp2_with fail
  go_loopw [5, 7] (fun o i wr => ∃ (j : Nat) (ns : List NodeV), 1 ≤ j ∧ (j : Int) ≤ n ∧ i = .int .i64 j ∧ ns.length + 1 = j ∧ Hid (NodeVal w.heap.size wr o ns ∧ ShortNames ns ∧ RdIn base wr g (p + 1) ∧ Turn [g] w wr)) (fun _ i _ => (n - intOf i).toNat)
  case atStart => exact ⟨1, [], by omega, by omega, rfl, rfl, World.ownsRow_nil _ _ _ _, (fun _ h => absurd h (by simp)), unhide HR1, unhide HT1⟩
  case round =>
    obtain ⟨j, ns, hj1, hjn, rfl, hnl, HP⟩ := hrel
    have hob := (unhide HP).1.own
    have HOB := hide hob
    clear hob
    have hwr := (unhide HP).2.2.2.size
    by_cases hlt : (j : Int) < n
    · have hown := World.ownsRow.alloc (unhide HP).1 (.cells #[.int .i64 (3 + v), .int .i64 0, .string ⟨#[]⟩, .int .i64 1] 49)
      have hnews := cells_row1 wr ⟨3 + v, 0, ⟨#[]⟩, 1⟩
      simp only at hnews
      go_wp2_with (first
        | (at_builtin; refine wpList_append_own _ rfl _ _ 31 rfl w.heap.size 49 i0 _ 4 40 Tryz.underlying31 hi hz0 hz1 hz2 rfl (by decide) u5 ns.length (cellsL ns) rfl hown ⟨wr.heap.size, 0, none⟩ 1 1 (cellsL [⟨3 + v, 0, ⟨#[]⟩, 1⟩]) rfl rfl hnews (cellsL_one _) (by unfold maxLen; omega) (by omega) (by simp; omega) ?_; intro v3 w3 hown3 hgrow3 _))
      have hT3 := ((unhide HP).2.2.2.trans (Turn.of_alloc _ _ _)).grown hgrow3 (fun x hx => .inr (unhide HOB x hx).1)
      have hR3 := ((unhide HP).2.2.1.turn (Turn.of_alloc [] _ _) (by simp) (by simp)).grown hgrow3 (fun x hx => by have := unhide HOB x hx; omega)
      have hv3 : NodeVal w.heap.size w3 v3 (ns ++ [⟨3 + v, 0, ⟨#[]⟩, 1⟩]) := by unfold NodeVal; rw [cellsL_app]; simpa using hown3
      have HV := hide hv3
      have HT3 := hide hT3
      have HR3 := hide hR3
      clear hown hnews hown3 hgrow3 hT3 hR3 hv3
      go_roundw
      case rel => exact ⟨j + 1, ns ++ [⟨3 + v, 0, ⟨#[]⟩, 1⟩], by omega, by omega, by go_num, by simp; omega, unhide HV, short_app (unhide HP).2.1 (short_one _ (show (⟨#[]⟩ : ByteArray).size ≤ 16 by decide)), unhide HR3, unhide HT3⟩
      case measure => simp [intOf]; omega
    · have hown := World.ownsRow.alloc (unhide HP).1 (.cells #[.int .i64 1, .int .i64 3, .string ⟨#[]⟩, .int .i64 0] 49)
      have hnews := cells_row1 wr ⟨1, 3, ⟨#[]⟩, 0⟩
      simp only at hnews
      go_wp2_with (first
        | (at_builtin; refine wpList_append_own _ rfl _ _ 31 rfl w.heap.size 49 i0 _ 4 40 Tryz.underlying31 hi hz0 hz1 hz2 rfl (by decide) u5 ns.length (cellsL ns) rfl hown ⟨wr.heap.size, 0, none⟩ 1 1 (cellsL [⟨1, 3, ⟨#[]⟩, 0⟩]) rfl rfl hnews (cellsL_one _) (by unfold maxLen; omega) (by omega) (by simp; omega) ?_; intro v3 w3 hown3 hgrow3 _))
      have hT3 := ((unhide HP).2.2.2.trans (Turn.of_alloc _ _ _)).grown hgrow3 (fun x hx => .inr (unhide HOB x hx).1)
      have hR3 := ((unhide HP).2.2.1.turn (Turn.of_alloc [] _ _) (by simp) (by simp)).grown hgrow3 (fun x hx => by have := unhide HOB x hx; omega)
      obtain ⟨k5, cap5, n5, rfl, hrow5, hn5, hsn5⟩ := NodeRow.join hown3 (by omega) (unhide HP).2.1 (short_one _ (show (⟨#[]⟩ : ByteArray).size ≤ 16 by decide))
      have HX := hide (show RetDraw base g p 1000 1 w (.returned (.slice (some ⟨k5, 0, none⟩) n5.length cap5)) w3 from
        ⟨⟨k5, cap5, n5, rfl, hrow5, by simp at hn5; omega, by simp at hn5; omega, hsn5⟩, hT3, p + 1, by omega, by omega, hR3⟩)
      clear hown hnews hown3 hgrow3 hT3 hR3 hrow5
      go_wp2_with fail
      go_ret
      exact unhide HX

end Go.Proofs.YtjfebnplffpmoaaGreatDoor
