/-
  The closure that DiskWrite attempts: a step and an append for each byte.
-/
import Derived.Test.YtddmomcanakoiaaMerged16
import Derived.Test.YtddmomcanakoiaaDiskCut
set_option linter.unusedVariables false
namespace Go.Proofs.Ytddmomcanakoiaa
open Go.RowKit Go.Maps Go.Deep

def fz (f : Int) (k : Nat) : Int := if f < 0 then f else f - k
def atD (d : DiskV) (bs : List UInt8) (k : Nat) : DiskV := ⟨d.safe, d.soft ++ bs.take k, fz d.fuse k, d.down⟩
def goneB (d : DiskV) (bs : List UInt8) : Bool := decide (0 ≤ d.fuse) && decide (d.fuse < (bs.length : Int))
theorem atD_zero (d : DiskV) (bs : List UInt8) : atD d bs 0 = d := by
  cases d
  simp [atD, fz]
theorem atD_next {d : DiskV} {bs : List UInt8} {k : Nat} (h : k < bs.length) (hk : d.fuse < 0 ∨ (k : Int) ≤ d.fuse) (h0 : fz d.fuse k ≠ 0) :
    (⟨(atD d bs k).safe, (atD d bs k).soft ++ [bs[k]], burnI (atD d bs k).fuse, (atD d bs k).down⟩ : DiskV) = atD d bs (k + 1) ∧ (d.fuse < 0 ∨ ((k + 1 : Nat) : Int) ≤ d.fuse) := by
  unfold fz at h0
  have hb : burnI (fz d.fuse k) = fz d.fuse (k + 1) := by
    unfold burnI fz
    by_cases h1 : d.fuse < 0
    · rw [if_pos h1, if_neg (by omega), if_pos h1]
    · rw [if_neg h1, if_neg h1] 
      rw [if_neg h1] at h0
      rw [if_pos (by omega)]
      omega
  refine ⟨?_, ?_⟩
  · simp only [atD]
    rw [hb, List.take_succ_eq_append_getElem h, List.append_assoc]
  · by_cases h1 : d.fuse < 0
    · exact .inl h1
    · rw [if_neg h1] at h0
      exact .inr (by omega)
theorem fz_range {f : Int} {k : Nat} (h1 : -1 ≤ f) (h2 : f ≤ 400) (hk : f < 0 ∨ (k : Int) ≤ f) : -1 ≤ fz f k ∧ fz f k ≤ 400 := by
  unfold fz
  split <;> omega
theorem Turn.on {S S2 : List Nat} {a b c : World} (h : Turn S a b) (h2 : Turn S2 b c) (hs : ∀ k ∈ S2, k ∈ S ∨ a.heap.size ≤ k) : Turn S a c :=
  ⟨h2.os.trans h.os, h2.tape.trans h.tape, h2.output.trans h.output, Nat.le_trans h.size h2.size, fun k hk hS => (h2.block k (Nat.lt_of_lt_of_le hk h.size) (fun hm => (hs k hm).elim hS (fun hh => by omega))).trans (h.block k hk hS)⟩
def gs (g : Nat) (v : Value) : List Nat := g :: v.ownBlock.toList
theorem gs_own {g k : Nat} {v : Value} (h : v.ownBlock = some k) : k ∈ gs g v := by simp [gs, h]
theorem byCellW (w : World) (c : UInt8) : ByRd (w.alloc (.cells #[.int .u8 (c.toNat : Int)] 5)) (.slice (some ⟨w.heap.size, 0, none⟩) 1 1) [c] := by
  refine ⟨_, 1, rfl, .inr ⟨w.heap.size, 0, rfl, by simp, fun i hi => ?_⟩, Nat.le_refl _⟩
  obtain rfl : i = 0 := by simpa using hi
  rw [World.cell?_alloc_at _ _ _ _ (by simp)]
  rfl
theorem Drive.grow {B : Nat} {wa w2 : World} {g : Nat} {v0 v1 v2 : Value} {D : DiskV} {bs : List UInt8} (h : Drive B wa g v0 v1 D) (G : wa.grownBy w2 v1.ownBlock) (R : ByRow B w2 v2 bs) (O : v2.ownBlock = v1.ownBlock ∨ ∀ k, v2.ownBlock = some k → wa.heap.size ≤ k) :
    Drive B (w2.setCell ⟨g, 1, none⟩ v2) g v0 v2 ⟨D.safe, bs, D.fuse, D.down⟩ ∧ Turn (gs g v1) wa (w2.setCell ⟨g, 1, none⟩ v2) := by
  have hb : w2.heap[g]? = wa.heap[g]? := G.block g h.lt (fun e => h.n1 g e.symm rfl)
  have hcell : ∀ i, w2.cell? ⟨g, i, none⟩ = wa.cell? ⟨g, i, none⟩ := fun i => World.cell?_of_block (w := wa) (a := ⟨g, i, none⟩) hb
  have hfr : ∀ i, w2.frozen? ⟨g, i, none⟩ = wa.frozen? ⟨g, i, none⟩ := fun i => World.frozen?_of_block (w := wa) (a := ⟨g, i, none⟩) hb
  have ht : Turn [g] w2 (w2.setCell ⟨g, 1, none⟩ v2) := (Turn.refl [g] w2).setCell (by simp) 1 _
  have ne : ∀ i, i ≠ 1 → (w2.setCell ⟨g, 1, none⟩ v2).cell? ⟨g, i, none⟩ = w2.cell? ⟨g, i, none⟩ := fun i h => World.cell?_setCell_other _ _ _ _ (by intro e; have := congrArg Addr.off e; simp only at this; omega)
  have hg := h.lt
  have hz : wa.heap.size ≤ w2.heap.size := G.size
  have hne : ∀ k, v2.ownBlock = some k → k ≠ g := by
    intro k hk
    rcases O with O | O
    · exact h.n1 k (O ▸ hk)
    · have := O k hk
      omega
  refine ⟨⟨h.le, Nat.lt_of_lt_of_le (Nat.lt_of_lt_of_le hg hz) ht.size, ((ne 0 (by omega)).trans (hcell 0)).trans h.c0, World.cell?_setCell_same _ _ _ ((hcell 1).trans h.c1), ((ne 2 (by omega)).trans (hcell 2)).trans h.c2, ((ne 3 (by omega)).trans (hcell 3)).trans h.c3, fun i hi => by rw [World.frozen?_setCell, hfr]; exact h.soft i hi, ?_, R.turn ht (fun k hk hm => hne k hk (by simpa using hm)), h.n0, hne, ?_⟩, ?_⟩
  · exact (h.r0.keep (fun k hk => G.block k (h.r0.lt k hk) (fun e => h.n01 k hk e.symm))).turn ht (fun k hk hm => h.n0 k hk (by simpa using hm))
  · intro k hk e
    rcases O with O | O
    · exact h.n01 k hk (O ▸ e)
    · have := O k e
      have := h.r0.lt k hk
      omega
  · exact (Turn.of_grown G (fun k hk => .inl (gs_own hk))).setCell (by simp [gs]) 1 _
/-- the closure behind its last byte, or at its panic -/
def ActOut (B g : Nat) (v0 v1 : Value) (d : DiskV) (bs : List UInt8) (w : World) (e : Ending) (w' : World) : Prop :=
  (goneB d bs = false ∧ e = .returned (.tuple #[]) ∧ Hid (∃ v, Drive B w' g v0 v (atD d bs bs.length) ∧ Turn (gs g v1) w w')) ∨ (goneB d bs = true ∧ e = .panicked fallenChain ∧ Hid (∃ v, Drive B w' g v0 v (atD d bs d.fuse.toNat) ∧ Turn (gs g v1) w w'))
set_option maxHeartbeats 6400000 in
theorem writeAct_row (B : Nat) (w : World) (g gw pb pw rb off cap : Nat) (v0 v1 : Value) (d : DiskV) (bs : List UInt8) (hl : d.safe.length + d.soft.length + bs.length ≤ 8000) (hB : B ≤ w.heap.size) (h : Drive B w g v0 v1 d) (hw : w.cell? ⟨gw, 0, none⟩ = some (.pointer (some ⟨g, 0, none⟩)))
    (hpb : w.cell? ⟨pb, 0, none⟩ = some (.slice (some ⟨rb, off, none⟩) bs.length cap)) (hpw : w.cell? ⟨pw, 0, none⟩ = some (.pointer (some ⟨g, 0, none⟩))) (n1 : gw ∉ gs g v1) (n2 : pb ∉ gs g v1) (n3 : pw ∉ gs g v1) (hrb : rb < B) (hc : ByAt w rb off bs) (hf1 : -1 ≤ d.fuse) (hf2 : d.fuse ≤ 400) :
    Calls Try.prog 73 #[.func (.func 78) #[] #[.pointer (some ⟨gw, 0, none⟩)], .pointer (some ⟨pb, 0, none⟩), .pointer (some ⟨pw, 0, none⟩)] w fun e w' => ActOut B g v0 v1 d bs w e w' := by
  have HGS := hide (show ∀ k ∈ gs g v1, B ≤ k from fun k hk => by
    simp only [gs, List.mem_cons, Option.mem_toList] at hk
    rcases hk with rfl | hk
    · exact h.le
    · exact h.r1.ge k hk)
  have D0 := hide h
  have HW := hide (show ∀ X, Turn (gs g v1) w X → X.cell? ⟨gw, 0, none⟩ = some (.pointer (some ⟨g, 0, none⟩)) from fun X t => (t.cell (lt_of_cell0 hw) n1).trans hw)
  have HPW := hide (show ∀ X, Turn (gs g v1) w X → X.cell? ⟨pw, 0, none⟩ = some (.pointer (some ⟨g, 0, none⟩)) from fun X t => (t.cell (lt_of_cell0 hpw) n3).trans hpw)
  have HPB := hide (show ∀ X, Turn (gs g v1) w X → X.cell? ⟨pb, 0, none⟩ = some (.slice (some ⟨rb, off, none⟩) bs.length cap) from fun X t => (t.cell (lt_of_cell0 hpb) n2).trans hpb)
  have HC := hide (show ∀ X, Turn (gs g v1) w X → ByAt X rb off bs from fun X t i hi => ((t.below hB (unhide HGS)).cell (by exact hrb)).trans (hc i hi))
  clear h hw hpw hc
  go_enter Try.func73, Try.ntmps73
  go_wp2_with fail
  go_loopw [8] (fun i wr => ∃ (k : Nat) (v : Value), k ≤ bs.length ∧ i = .int .i64 k ∧ Hid (d.fuse < 0 ∨ (k : Int) ≤ d.fuse) ∧ Hid (Drive B wr g v0 v (atD d bs k)) ∧ Hid (∀ x, v.ownBlock = some x → x ∈ gs g v1 ∨ w.heap.size ≤ x) ∧ Hid (Turn (gs g v1) w wr)) (fun i _ => bs.length - (intOf i).toNat)
  case atStart => exact ⟨0, v1, Nat.zero_le _, rfl, by by_cases h : d.fuse < 0; exact .inl h; exact .inr (by omega), by rw [atD_zero]; exact D0, fun x hx => .inl (gs_own hx), Turn.refl _ _⟩
  case round =>
    obtain ⟨k, v, hk, rfl, HF, HD, HO, HT⟩ := hrel
    by_cases hlt : k < bs.length
    · have c0 := unhide HC wr (unhide HT) k hlt
      have q1 := unhide HPW wr (unhide HT)
      have hf := fz_range hf1 hf2 (unhide HF)
      have hx0 := UInt8.toNat_lt bs[k]
      by_cases hz : fz d.fuse k = 0
      · have HS := hide (step_gone B wr g gw v0 v (atD d bs k) (unhide HD) (unhide HW wr (unhide HT)) hz)
        have HE := hide (show goneB d bs = true ∧ d.fuse.toNat = k by
          have := unhide HF
          unfold fz at hz
          split at hz
          · omega
          · simp [goneB]; omega)
        generalize bs[k].toNat = x at *
        clear hz
        go_wp2_with fail
        refine (unhide HS).mono ?_
        rintro e w' ⟨rfl, rfl⟩
        exact ⟨rfl, Or.inr ⟨(unhide HE).1, rfl, hide ⟨v, by rw [(unhide HE).2]; exact unhide HD, unhide HT⟩⟩⟩
      · have HS := hide (step_done B wr g gw v0 v (atD d bs k) (unhide HD) (unhide HW wr (unhide HT)) hz hf.1 hf.2)
        have HN := hide (atD_next hlt (unhide HF) hz)
        have CW := hide (fun W => byCellW W bs[k])
        generalize bs[k] = cx at *
        generalize hcx : cx.toNat = x at *
        go_wp2_with fail
        refine (unhide HS).mono ?_
        rintro e w1 ⟨rfl, P1⟩
        have D1 := hide (unhide P1).1
        have T1 := hide ((unhide HT).trans ((unhide P1).2.mono (fun y hy => .inl (by simp at hy; subst hy; simp [gs]))))
        have q1' := unhide HPW w1 (unhide T1)
        obtain ⟨a1, e1, hv⟩ := (unhide D1).r1.slice
        simp only at hv
        generalize hn : (atD d bs k).soft.length = n at hv
        subst hv
        have HL := hide (show (atD d bs k).soft.length + [cx].length ≤ 140737488355328 by simp [atD]; omega)
        have DW := hide (show Drive B w1.drew g v0 (.slice a1 n e1) _ from let D := unhide D1; ⟨D.le, D.lt, D.c0, D.c1, D.c2, D.c3, D.soft, D.r0.keep (fun _ _ => rfl), D.r1.keep (fun _ _ => rfl), D.n0, D.n1, D.n01⟩)
        have TW := hide (show Turn (gs g v1) w w1.drew from (unhide T1).trans ⟨rfl, rfl, rfl, Nat.le_refl _, fun _ _ _ => rfl⟩)
        have qW := unhide HPW w1.drew (unhide TW)
        clear q1 q1' c0 hn hz hf HS P1 D1 T1 HD
        go_wp2_with fail
        refine wp_region_held_drew (S := fun X : World => X.cell? ⟨pw, 0, none⟩ = some (.pointer (some ⟨g, 0, none⟩))) (by kernel_rfl) qW ?_
        intro hS
        generalize w1.drew = W at *
        have p1 := (unhide DW).c1
        have bA : Below W.heap.size W (W.alloc (.cells #[.int .u8 (x : Int)] 5)) := (Below.refl _ _).alloc (Nat.le_refl _) _
        have DA := hide ((unhide DW).up bA)
        have TA := hide ((unhide TW).alloc (.cells #[.int .u8 (x : Int)] 5))
        have pA := (unhide DA).c1
        have hSA := unhide HPW _ (unhide TA)
        have HBA := hide (show B ≤ (W.alloc (.cells #[.int .u8 (x : Int)] 5)).heap.size from Nat.le_trans hB (unhide TA).size)
        clear bA qW
        refine wpAnyH_take (i := 0) (v := .pointer (some ⟨g, 0, none⟩)) rfl (by kernel_rfl) (by kernel_rfl) (by kernel_rfl) (fun _ _ _ h => h) (Or.inl ⟨by rfl, ?_⟩) hS ?_
        · intro X hX
          clear hS
          go_simp
          try with_reducible rfl
        try simp [Act.put]
        refine wpAnyH_take (i := 1) (v := .pointer (some ⟨g, 0, none⟩)) rfl (by kernel_rfl) (by kernel_rfl) (by kernel_rfl) (fun _ _ _ h => h) (Or.inl ⟨by rfl, ?_⟩) hS ?_
        · intro X hX
          clear hS
          go_simp
          try with_reducible rfl
        try simp [Act.put]
        refine wpAnyH_take (i := 2) (v := .pointer (some ⟨g, 0, none⟩)) rfl (by kernel_rfl) (by kernel_rfl) (by kernel_rfl) (fun _ _ _ h => h) (Or.inl ⟨by rfl, ?_⟩) hS ?_
        · intro X hX
          clear hS
          go_simp
          try with_reducible rfl
        try simp [Act.put]
        refine wpAnyH_take (i := 3) (v := .pointer (some ⟨g, 0, none⟩)) rfl (by kernel_rfl) (by kernel_rfl) (by kernel_rfl) (fun _ _ _ h => h) (Or.inl ⟨by rfl, ?_⟩) hS ?_
        · intro X hX
          clear hS
          go_simp
          try with_reducible rfl
        try simp [Act.put]
        refine wpAnyH_take (i := 4) (v := .pointer (some ⟨g, 1, none⟩)) rfl (by kernel_rfl) (by kernel_rfl) (by kernel_rfl) (fun _ _ _ h => h) (Or.inl ⟨by rfl, ?_⟩) hS ?_
        · intro X hX
          clear hS
          go_simp
          try with_reducible rfl
        try simp [Act.put]
        refine wpAnyH_take (i := 6) (v := .int .u8 (x : Int)) rfl (by kernel_rfl) (by kernel_rfl) (by kernel_rfl) (fun _ _ _ h => h) (Or.inl ⟨by rfl, ?_⟩) hS ?_
        · intro X hX
          clear hS
          go_simp
          try with_reducible rfl
        try simp [Act.put]
        refine wpAnyH_ready (rs := [5, 7]) (by kernel_rfl) (by simp) ?_
        refine AllReadyH.cons rfl (fun K hK => ?_) (AllReadyH.cons rfl (fun K hK => ?_) AllReadyH.nil)
        · go_simp
          refine hK.out _ _ (hS) ?_
          clear hK K
          intro hS
          try simp [Act.put]
          refine wpAnyH_ready (rs := [7]) (by kernel_rfl) (by simp) ?_
          refine AllReadyH.cons rfl (fun K hK => ?_) AllReadyH.nil
          go_simp
          refine hK.out _ _ (hSA) ?_
          clear hK K
          intro hS
          try simp [Act.put]
          refine wpAnyH_ready (rs := [8]) (by kernel_rfl) (by simp) ?_
          refine AllReadyH.cons rfl (fun K hK => ?_) AllReadyH.nil
          refine step_byAppend (by rfl) (.tmp 19) (.tmp 21) (by rfl) B (.slice a1 n e1) (.slice (some ⟨W.heap.size, 0, none⟩) 1 1) (atD d bs k).soft [cx] (by rfl) (by rfl) (unhide DA).r1 (unhide CW W) (unhide HL) (unhide HBA) ?_
          intro a2 n2 c2 w2 r2 g2 o2
          have GP := hide (Drive.grow (unhide DA) g2 r2 o2)
          have TG := hide (show Turn (gs g v1) w w2 from (unhide TA).on (Turn.of_grown (S := (Value.slice a1 n e1).ownBlock.toList) g2 (fun y hy => .inl (by rw [hy]; simp))) (fun y hy => unhide HO y (by simpa using hy)))
          have HO2 := hide (show ∀ y, (Value.slice a2 n2 c2).ownBlock = some y → y ∈ gs g v1 ∨ w.heap.size ≤ y from fun y hy => by
            rcases o2 with o2 | o2
            · exact unhide HO y (o2 ▸ hy)
            · exact .inr (Nat.le_trans (unhide TA).size (o2 y hy)))
          have TF := hide (show Turn (gs g v1) w (w2.setCell ⟨g, 1, none⟩ (.slice a2 n2 c2)) from (unhide TG).setCell (by simp [gs]) 1 _)
          have hb : w2.heap[g]? = (W.alloc (.cells #[.int .u8 (x : Int)] 5)).heap[g]? := g2.block g (unhide DA).lt (fun e => (unhide DA).n1 g e.symm rfl)
          have k1 : w2.cell? ⟨g, 1, none⟩ = some (.slice a1 n e1) := (World.cell?_of_block (w := (W.alloc (.cells #[.int .u8 (x : Int)] 5))) (a := ⟨g, 1, none⟩) hb).trans pA
          have k2 : w2.frozen? ⟨g, 1, none⟩ = false := (World.frozen?_of_block (w := (W.alloc (.cells #[.int .u8 (x : Int)] 5))) (a := ⟨g, 1, none⟩) hb).trans ((unhide DA).soft 1 (by omega))
          refine hK.out _ _ (unhide HPW w2 (unhide TG)) ?_
          clear hK K r2 g2 o2 hb
          intro hS
          try simp [Act.put]
          refine wpAnyH_ready (rs := [9]) (by kernel_rfl) (by simp) ?_
          refine AllReadyH.cons rfl (fun K hK => ?_) AllReadyH.nil
          go_simp
          refine hK.out _ _ (hS) ?_
          clear hK K
          intro hS
          try simp [Act.put]
          refine wpAnyH_ready (rs := [10]) (by kernel_rfl) (by simp) ?_
          refine AllReadyH.cons rfl (fun K hK => ?_) AllReadyH.nil
          go_simp
          refine hK.out _ _ (hS) ?_
          clear hK K
          intro hS
          try simp [Act.put]
          refine wpAnyH_ready (rs := [11]) (by kernel_rfl) (by simp) ?_
          refine AllReadyH.cons rfl (fun K hK => ?_) AllReadyH.nil
          go_simp
          refine hK.out _ _ (hS) ?_
          clear hK K
          intro hS
          try simp [Act.put]
          refine wpAnyH_ready (rs := [12]) (by kernel_rfl) (by simp) ?_
          refine AllReadyH.cons rfl (fun K hK => ?_) AllReadyH.nil
          go_simp
          refine hK.out _ _ (unhide HPW _ (unhide TF)) ?_
          clear hK K
          intro hS
          try simp [Act.put]
          refine wpAnyH_done (by kernel_rfl) ?_ _
          clear p1 pA hSA k1 k2 hS
          have HF2 := hide (unhide HN).2
          have HD2 := hide (show Drive B (w2.setCell ⟨g, 1, none⟩ (.slice a2 n2 c2)) g v0 (.slice a2 n2 c2) (atD d bs (k + 1)) by rw [← (unhide HN).1]; exact (unhide GP).1)
          generalize w2.setCell ⟨g, 1, none⟩ (.slice a2 n2 c2) = W2 at *
          go_wp2_with fail
          go_roundw
          case rel => exact ⟨k + 1, .slice a2 n2 c2, by omega, by go_num, HF2, HD2, HO2, TF⟩
          case measure => simp [intOf]; omega
        · go_simp
          refine hK.out _ _ (hSA) ?_
          clear hK K
          intro hS
          try simp [Act.put]
          refine wpAnyH_ready (rs := [5]) (by kernel_rfl) (by simp) ?_
          refine AllReadyH.cons rfl (fun K hK => ?_) AllReadyH.nil
          go_simp
          refine hK.out _ _ (hS) ?_
          clear hK K
          intro hS
          try simp [Act.put]
          refine wpAnyH_ready (rs := [8]) (by kernel_rfl) (by simp) ?_
          refine AllReadyH.cons rfl (fun K hK => ?_) AllReadyH.nil
          refine step_byAppend (by rfl) (.tmp 19) (.tmp 21) (by rfl) B (.slice a1 n e1) (.slice (some ⟨W.heap.size, 0, none⟩) 1 1) (atD d bs k).soft [cx] (by rfl) (by rfl) (unhide DA).r1 (unhide CW W) (unhide HL) (unhide HBA) ?_
          intro a2 n2 c2 w2 r2 g2 o2
          have GP := hide (Drive.grow (unhide DA) g2 r2 o2)
          have TG := hide (show Turn (gs g v1) w w2 from (unhide TA).on (Turn.of_grown (S := (Value.slice a1 n e1).ownBlock.toList) g2 (fun y hy => .inl (by rw [hy]; simp))) (fun y hy => unhide HO y (by simpa using hy)))
          have HO2 := hide (show ∀ y, (Value.slice a2 n2 c2).ownBlock = some y → y ∈ gs g v1 ∨ w.heap.size ≤ y from fun y hy => by
            rcases o2 with o2 | o2
            · exact unhide HO y (o2 ▸ hy)
            · exact .inr (Nat.le_trans (unhide TA).size (o2 y hy)))
          have TF := hide (show Turn (gs g v1) w (w2.setCell ⟨g, 1, none⟩ (.slice a2 n2 c2)) from (unhide TG).setCell (by simp [gs]) 1 _)
          have hb : w2.heap[g]? = (W.alloc (.cells #[.int .u8 (x : Int)] 5)).heap[g]? := g2.block g (unhide DA).lt (fun e => (unhide DA).n1 g e.symm rfl)
          have k1 : w2.cell? ⟨g, 1, none⟩ = some (.slice a1 n e1) := (World.cell?_of_block (w := (W.alloc (.cells #[.int .u8 (x : Int)] 5))) (a := ⟨g, 1, none⟩) hb).trans pA
          have k2 : w2.frozen? ⟨g, 1, none⟩ = false := (World.frozen?_of_block (w := (W.alloc (.cells #[.int .u8 (x : Int)] 5))) (a := ⟨g, 1, none⟩) hb).trans ((unhide DA).soft 1 (by omega))
          refine hK.out _ _ (unhide HPW w2 (unhide TG)) ?_
          clear hK K r2 g2 o2 hb
          intro hS
          try simp [Act.put]
          refine wpAnyH_ready (rs := [9]) (by kernel_rfl) (by simp) ?_
          refine AllReadyH.cons rfl (fun K hK => ?_) AllReadyH.nil
          go_simp
          refine hK.out _ _ (hS) ?_
          clear hK K
          intro hS
          try simp [Act.put]
          refine wpAnyH_ready (rs := [10]) (by kernel_rfl) (by simp) ?_
          refine AllReadyH.cons rfl (fun K hK => ?_) AllReadyH.nil
          go_simp
          refine hK.out _ _ (hS) ?_
          clear hK K
          intro hS
          try simp [Act.put]
          refine wpAnyH_ready (rs := [11]) (by kernel_rfl) (by simp) ?_
          refine AllReadyH.cons rfl (fun K hK => ?_) AllReadyH.nil
          go_simp
          refine hK.out _ _ (hS) ?_
          clear hK K
          intro hS
          try simp [Act.put]
          refine wpAnyH_ready (rs := [12]) (by kernel_rfl) (by simp) ?_
          refine AllReadyH.cons rfl (fun K hK => ?_) AllReadyH.nil
          go_simp
          refine hK.out _ _ (unhide HPW _ (unhide TF)) ?_
          clear hK K
          intro hS
          try simp [Act.put]
          refine wpAnyH_done (by kernel_rfl) ?_ _
          clear p1 pA hSA k1 k2 hS
          have HF2 := hide (unhide HN).2
          have HD2 := hide (show Drive B (w2.setCell ⟨g, 1, none⟩ (.slice a2 n2 c2)) g v0 (.slice a2 n2 c2) (atD d bs (k + 1)) by rw [← (unhide HN).1]; exact (unhide GP).1)
          generalize w2.setCell ⟨g, 1, none⟩ (.slice a2 n2 c2) = W2 at *
          go_wp2_with fail
          go_roundw
          case rel => exact ⟨k + 1, .slice a2 n2 c2, by omega, by go_num, HF2, HD2, HO2, TF⟩
          case measure => simp [intOf]; omega
    · have hke : k = bs.length := by omega
      have HE := hide (show goneB d bs = false by
        have := unhide HF
        simp [goneB]; omega)
      have HQ := hide (show Drive B wr g v0 v (atD d bs bs.length) by rw [← hke]; exact unhide HD)
      clear hke HD
      go_wp2_with fail
      go_end0
      exact Or.inl ⟨unhide HE, rfl, hide ⟨v, unhide HQ, unhide HT⟩⟩
end Go.Proofs.Ytddmomcanakoiaa
