/-
  DiskWrite of the program.
-/
/-
  DiskWrite of the program, at its face.
-/
import Derived.Test.YtddmomcanakoiaaWriteRun
set_option linter.unusedVariables false
namespace Go.Proofs.Ytddmomcanakoiaa
open Go.RowKit Go.Maps Go.Deep

def wrW (w : World) (g : Nat) (v : Value) : World := (w.alloc (.cells #[.pointer (some ⟨g, 0, none⟩)] 109)).alloc (.cells #[v] 22)
theorem wrW_size (w : World) (g : Nat) (v : Value) : (wrW w g v).heap.size = w.heap.size + 1 + 1 := by simp [wrW]
theorem wrW_up (w : World) (g : Nat) (v : Value) : Below w.heap.size w (wrW w g v) := ((Below.refl _ _).alloc (Nat.le_refl _) _).alloc (by simp) _
theorem wrW_cells (w : World) (g : Nat) (v : Value) : (wrW w g v).cell? ⟨w.heap.size, 0, none⟩ = some (.pointer (some ⟨g, 0, none⟩)) ∧ (wrW w g v).cell? ⟨w.heap.size + 1, 0, none⟩ = some v := by
  unfold wrW
  refine ⟨?_, ?_⟩
  · rw [World.cell?_alloc_past _ _ _ (by simp), World.cell?_alloc_at _ _ _ _ (by simp)]
    rfl
  · rw [World.cell?_alloc_at _ _ _ _ (by simp)]
    rfl
theorem write_ready (B : Nat) (w W : World) (g : Nat) (v0 v1 vb : Value) (d : DiskV) (bs : List UInt8) (hl : d.safe.length + d.soft.length + bs.length ≤ 8000) (hB : B ≤ w.heap.size) (h : Drive B w g v0 v1 d) (hb : Below w.heap.size w W) (hz : w.heap.size + 1 + 1 ≤ W.heap.size)
    (hpw : W.cell? ⟨w.heap.size, 0, none⟩ = some (.pointer (some ⟨g, 0, none⟩))) (hpb : W.cell? ⟨w.heap.size + 1, 0, none⟩ = some vb) (hr : ByLow B w vb bs) (hf1 : -1 ≤ d.fuse) (hf2 : d.fuse ≤ 400) :
    Calls Try.prog 69 #[.pointer (some ⟨g, 0, none⟩), .func (.func 73) #[] #[.pointer (some ⟨w.heap.size + 1, 0, none⟩), .pointer (some ⟨w.heap.size, 0, none⟩)]] W fun e w' => ActEnd B g d bs W e w' := by
  have hD := h.up hb
  have hgl := h.lt
  have hne : ∀ k, w.heap.size ≤ k → k ∉ gs g v1 := fun k hk hm => by
    simp only [gs, List.mem_cons, Option.mem_toList] at hm
    rcases hm with hm | hm
    · omega
    · have := h.r1.lt _ hm; omega
  have ua := attW_up W g
  have sa := attW_size W g
  exact attemptW B g _ _ W v0 v1 d bs hl (by omega) hD (writeAct_any B (attW W g) g W.heap.size (w.heap.size + 1) w.heap.size v0 v1 vb d bs hl (by omega) (hD.up ua) (attW_gw W g) ((ua.cell (by simp only; omega)).trans hpb) ((ua.cell (by simp only; omega)).trans hpw) (hne _ (by omega)) (hne _ (by omega)) (hne _ (by omega)) (hr.up ((hb.trans (ua.mono (by omega))).mono hB)) hf1 hf2)
def wrOut (d : DiskV) (bs : List UInt8) : DiskV := if d.down = true then d else if 8000 < d.safe.length + d.soft.length + bs.length then d else actD d bs
def wrCode (d : DiskV) (bs : List UInt8) : Int := if d.down = true then 2 else if 8000 < d.safe.length + d.soft.length + bs.length then 3 else actC d bs
def RetWr (B g : Nat) (d : DiskV) (bs : List UInt8) (w : World) (e : Ending) (w' : World) : Prop := e = .returned (.int .i64 (wrCode d bs)) ∧ ∃ v v1, Drive B w' g v v1 (wrOut d bs) ∧ Below B w w'
set_option maxHeartbeats 6400000 in
theorem driveWrite_any (B : Nat) (w : World) (g : Nat) (v0 v1 vb : Value) (d : DiskV) (bs : List UInt8) (hl : d.safe.length + d.soft.length ≤ 8000) (hbl : bs.length ≤ 2000000) (hB : B ≤ w.heap.size) (h : Drive B w g v0 v1 d) (hr : ByLow B w vb bs) (hf1 : -1 ≤ d.fuse) (hf2 : d.fuse ≤ 400) :
    Calls Try.prog 59 #[.pointer (some ⟨g, 0, none⟩), vb] w fun e w' => RetWr B g d bs w e w' := by
  have hmf : ∀ (fn : Fn) (first cap : Array Value) (w : World), (Instr.makeFunc fn first cap).run Try.prog w = .ok (.func fn first cap) w := fun _ _ _ _ => rfl
  have bu := wrW_up w g vb
  have hsz := wrW_size w g vb
  have hD := h.up bu
  obtain ⟨kw, kb⟩ := wrW_cells w g vb
  have HSB := hide (show ∀ X, Below (wrW w g vb).heap.size (wrW w g vb) X → (X.cell? ⟨w.heap.size, 0, none⟩ = some (.pointer (some ⟨g, 0, none⟩)) ∧ X.cell? ⟨w.heap.size + 1, 0, none⟩ = some vb ∧ X.cell? ⟨g, 0, none⟩ = some v0 ∧ X.cell? ⟨g, 1, none⟩ = some v1 ∧ X.cell? ⟨g, 2, none⟩ = some (.int .i64 d.fuse) ∧ X.cell? ⟨g, 3, none⟩ = some (.bool d.down)) ∧ w.heap.size + 1 + 1 ≤ X.heap.size ∧ Below w.heap.size w X from fun W b => by
    have D := hD.up b
    exact ⟨⟨(b.cell (by simp only; omega)).trans kw, (b.cell (by simp only; omega)).trans kb, D.c0, D.c1, D.c2, D.c3⟩, by have := b.size; omega, bu.trans (b.mono (by omega))⟩)
  have HRD := hide (fun W (b : Below w.heap.size w W) hz hpw hpb hll => write_ready B w W g v0 v1 vb d bs hll hB h b hz hpw hpb hr hf1 hf2)
  obtain ⟨a0, e0, rfl⟩ := h.r0.slice
  obtain ⟨a1, e1, rfl⟩ := h.r1.slice
  obtain ⟨ab, eb, rfl, _⟩ := hr
  have HSZ := hide (fun W => size_val d.safe.length e0 d.soft.length e1 a0 a1 d.fuse d.down W (by omega) (by omega))
  have c0 := hD.c0
  have c1 := hD.c1
  have c2 := hD.c2
  have c3 := hD.c3
  have HD := hide (fun W (b : Below w.heap.size w W) => h.up b)
  have HB0 := hide (bu.mono hB)
  unfold wrW at c0 c1 c2 c3 HSB HB0 kw kb
  clear hD bu hsz h
  cases hdn : d.down
  · rw [hdn] at c3 HSZ HSB
    by_cases hbig : 8000 < d.safe.length + d.soft.length + bs.length
    · have HE := hide (show wrCode d bs = 3 ∧ wrOut d bs = d by simp [wrCode, wrOut, hdn, hbig])
      have hg : (8000 : Int) < ((d.safe.length : Int) + (d.soft.length : Int)) + (bs.length : Int) := by omega
      have hl1 : (d.safe.length : Int) ≤ 8000 := by omega
      have hl2 : (d.soft.length : Int) ≤ 8000 := by omega
      have hl3 : (bs.length : Int) ≤ 2000000 := by omega
      clear hbig hl hbl hdn
      generalize bs.length = nb at *
      generalize d.safe.length = n0 at *
      generalize d.soft.length = n1 at *
      have HWP := hide (show IntKind.i64.wrap ((n0 : Int) + (n1 : Int) + (nb : Int)) = (n0 : Int) + (n1 : Int) + (nb : Int) by rw [IntKind.wrap_i64]; omega)
      go_enter Try.func59, Try.ntmps59
      go_wp2_with fail
      have BD := hide (show Below ((w.alloc (.cells #[.pointer (some ⟨g, 0, none⟩)] 109)).alloc (.cells #[.slice ab nb eb] 22)).heap.size ((w.alloc (.cells #[.pointer (some ⟨g, 0, none⟩)] 109)).alloc (.cells #[.slice ab nb eb] 22)) ((w.alloc (.cells #[.pointer (some ⟨g, 0, none⟩)] 109)).alloc (.cells #[.slice ab nb eb] 22)).drew from (Below.refl _ _).drew)
      have hS := (unhide HSB _ (unhide BD)).1
      refine wp_region_held_drew (S := fun X : World => (X.cell? ⟨w.heap.size, 0, none⟩ = some (.pointer (some ⟨g, 0, none⟩)) ∧ X.cell? ⟨w.heap.size + 1, 0, none⟩ = some (.slice ab nb eb) ∧ X.cell? ⟨g, 0, none⟩ = some (.slice a0 n0 e0) ∧ X.cell? ⟨g, 1, none⟩ = some (.slice a1 n1 e1) ∧ X.cell? ⟨g, 2, none⟩ = some (.int .i64 d.fuse) ∧ X.cell? ⟨g, 3, none⟩ = some (.bool false))) (by kernel_rfl) hS ?_
      clear hS c0 c1 c2 c3 kw kb
      intro hS
      refine wpAnyH_take (i := 0) (v := .pointer (some ⟨g, 0, none⟩)) rfl (by kernel_rfl) (by kernel_rfl) (by kernel_rfl) (fun _ _ _ h => h) (Or.inl ⟨by rfl, ?_⟩) hS ?_
      · intro X hX
        obtain ⟨h1, h2, h3, h4, h5, h6⟩ := hX
        clear hS
        go_simp
        try with_reducible rfl
      try simp [Act.put]
      refine wpAnyH_take (i := 1) (v := .pointer (some ⟨g, 0, none⟩)) rfl (by kernel_rfl) (by kernel_rfl) (by kernel_rfl) (fun _ _ _ h => h) (Or.inl ⟨by rfl, ?_⟩) hS ?_
      · intro X hX
        obtain ⟨h1, h2, h3, h4, h5, h6⟩ := hX
        clear hS
        go_simp
        try with_reducible rfl
      try simp [Act.put]
      refine wpAnyH_take (i := 2) (v := .pointer (some ⟨g, 0, none⟩)) rfl (by kernel_rfl) (by kernel_rfl) (by kernel_rfl) (fun _ _ _ h => h) (Or.inl ⟨by rfl, ?_⟩) hS ?_
      · intro X hX
        obtain ⟨h1, h2, h3, h4, h5, h6⟩ := hX
        clear hS
        go_simp
        try with_reducible rfl
      try simp [Act.put]
      refine wpAnyH_take (i := 3) (v := .agg #[.slice a0 n0 e0, .slice a1 n1 e1, .int .i64 d.fuse, .bool false]) rfl (by kernel_rfl) (by kernel_rfl) (by kernel_rfl) (fun _ _ _ h => h) (Or.inl ⟨by rfl, ?_⟩) hS ?_
      · intro X hX
        obtain ⟨h1, h2, h3, h4, h5, h6⟩ := hX
        clear hS
        go_simp
        try with_reducible rfl
      try simp [Act.put]
      refine wpAnyH_take (i := 5) (v := .slice ab nb eb) rfl (by kernel_rfl) (by kernel_rfl) (by kernel_rfl) (fun _ _ _ h => h) (Or.inl ⟨by rfl, ?_⟩) hS ?_
      · intro X hX
        obtain ⟨h1, h2, h3, h4, h5, h6⟩ := hX
        clear hS
        go_simp
        try with_reducible rfl
      try simp [Act.put]
      refine wpAnyH_take (i := 6) (v := .int .i64 (nb : Int)) rfl (by kernel_rfl) (by kernel_rfl) (by kernel_rfl) (fun _ _ _ h => h) (Or.inl ⟨by rfl, ?_⟩) hS ?_
      · intro X hX
        obtain ⟨h1, h2, h3, h4, h5, h6⟩ := hX
        clear hS
        go_simp
        try with_reducible rfl
      try simp [Act.put]
      refine wpAnyH_ready (rs := [4]) (by kernel_rfl) (by simp) ?_
      refine AllReadyH.cons rfl (fun K hK => ?_) AllReadyH.nil
      go_simp
      go_wp2_with (go_at_call 52; refine (unhide HSZ _).mono ?_; rintro e w1 ⟨rfl, b1'⟩; have b1 := (unhide BD).trans (b1'.mono (unhide BD).size); clear b1'; obtain ⟨⟨k1, k2, k4⟩, k3, b2⟩ := unhide HSB w1 b1)
      refine hK.out _ _ ⟨k1, k2, k4⟩ ?_
      clear hK K
      intro hS
      try simp [Act.put]
      refine wpAnyH_ready (rs := [7]) (by kernel_rfl) (by simp) ?_
      refine AllReadyH.cons rfl (fun K hK => ?_) AllReadyH.nil
      go_simp
      rw [unhide HWP]
      refine hK.out _ _ (hS) ?_
      clear hK K
      intro hS
      try simp [Act.put]
      refine wpAnyH_ready (rs := [8]) (by kernel_rfl) (by simp) ?_
      refine AllReadyH.cons rfl (fun K hK => ?_) AllReadyH.nil
      go_simp
      refine hK.out _ _ (hS) ?_
      clear hK K
      intro hS
      try simp [Act.put]
      refine wpAnyH_ready (rs := [9]) (by kernel_rfl) (by simp) ?_
      refine AllReadyH.cons rfl (fun K hK => ?_) AllReadyH.nil
      go_simp
      refine hK.out _ _ (hS) ?_
      clear hK K
      intro hS
      try simp [Act.put]
      refine wpAnyH_done (by kernel_rfl) ?_ _
      clear hS k4
      have B1 := hide b2
      clear b1 b2
      go_wp2_with fail
      go_ret
      exact ⟨by rw [(unhide HE).1]; rfl, _, _, by rw [(unhide HE).2]; exact unhide HD _ (unhide B1), (unhide B1).mono hB⟩
    · have HE := hide (show wrCode d bs = actC d bs ∧ wrOut d bs = actD d bs by simp [wrCode, wrOut, hdn, hbig])
      have hg : ¬ (8000 : Int) < ((d.safe.length : Int) + (d.soft.length : Int)) + (bs.length : Int) := by omega
      have HLL := hide (show d.safe.length + d.soft.length + bs.length ≤ 8000 by omega)
      have hl1 : (d.safe.length : Int) ≤ 8000 := by omega
      have hl2 : (d.soft.length : Int) ≤ 8000 := by omega
      have hl3 : (bs.length : Int) ≤ 2000000 := by omega
      clear hbig hl hbl hdn
      generalize bs.length = nb at *
      generalize d.safe.length = n0 at *
      generalize d.soft.length = n1 at *
      have HWP := hide (show IntKind.i64.wrap ((n0 : Int) + (n1 : Int) + (nb : Int)) = (n0 : Int) + (n1 : Int) + (nb : Int) by rw [IntKind.wrap_i64]; omega)
      go_enter Try.func59, Try.ntmps59
      go_wp2_with fail
      have BD := hide (show Below ((w.alloc (.cells #[.pointer (some ⟨g, 0, none⟩)] 109)).alloc (.cells #[.slice ab nb eb] 22)).heap.size ((w.alloc (.cells #[.pointer (some ⟨g, 0, none⟩)] 109)).alloc (.cells #[.slice ab nb eb] 22)) ((w.alloc (.cells #[.pointer (some ⟨g, 0, none⟩)] 109)).alloc (.cells #[.slice ab nb eb] 22)).drew from (Below.refl _ _).drew)
      have hS := (unhide HSB _ (unhide BD)).1
      refine wp_region_held_drew (S := fun X : World => (X.cell? ⟨w.heap.size, 0, none⟩ = some (.pointer (some ⟨g, 0, none⟩)) ∧ X.cell? ⟨w.heap.size + 1, 0, none⟩ = some (.slice ab nb eb) ∧ X.cell? ⟨g, 0, none⟩ = some (.slice a0 n0 e0) ∧ X.cell? ⟨g, 1, none⟩ = some (.slice a1 n1 e1) ∧ X.cell? ⟨g, 2, none⟩ = some (.int .i64 d.fuse) ∧ X.cell? ⟨g, 3, none⟩ = some (.bool false))) (by kernel_rfl) hS ?_
      clear hS c0 c1 c2 c3 kw kb
      intro hS
      refine wpAnyH_take (i := 0) (v := .pointer (some ⟨g, 0, none⟩)) rfl (by kernel_rfl) (by kernel_rfl) (by kernel_rfl) (fun _ _ _ h => h) (Or.inl ⟨by rfl, ?_⟩) hS ?_
      · intro X hX
        obtain ⟨h1, h2, h3, h4, h5, h6⟩ := hX
        clear hS
        go_simp
        try with_reducible rfl
      try simp [Act.put]
      refine wpAnyH_take (i := 1) (v := .pointer (some ⟨g, 0, none⟩)) rfl (by kernel_rfl) (by kernel_rfl) (by kernel_rfl) (fun _ _ _ h => h) (Or.inl ⟨by rfl, ?_⟩) hS ?_
      · intro X hX
        obtain ⟨h1, h2, h3, h4, h5, h6⟩ := hX
        clear hS
        go_simp
        try with_reducible rfl
      try simp [Act.put]
      refine wpAnyH_take (i := 2) (v := .pointer (some ⟨g, 0, none⟩)) rfl (by kernel_rfl) (by kernel_rfl) (by kernel_rfl) (fun _ _ _ h => h) (Or.inl ⟨by rfl, ?_⟩) hS ?_
      · intro X hX
        obtain ⟨h1, h2, h3, h4, h5, h6⟩ := hX
        clear hS
        go_simp
        try with_reducible rfl
      try simp [Act.put]
      refine wpAnyH_take (i := 3) (v := .agg #[.slice a0 n0 e0, .slice a1 n1 e1, .int .i64 d.fuse, .bool false]) rfl (by kernel_rfl) (by kernel_rfl) (by kernel_rfl) (fun _ _ _ h => h) (Or.inl ⟨by rfl, ?_⟩) hS ?_
      · intro X hX
        obtain ⟨h1, h2, h3, h4, h5, h6⟩ := hX
        clear hS
        go_simp
        try with_reducible rfl
      try simp [Act.put]
      refine wpAnyH_take (i := 5) (v := .slice ab nb eb) rfl (by kernel_rfl) (by kernel_rfl) (by kernel_rfl) (fun _ _ _ h => h) (Or.inl ⟨by rfl, ?_⟩) hS ?_
      · intro X hX
        obtain ⟨h1, h2, h3, h4, h5, h6⟩ := hX
        clear hS
        go_simp
        try with_reducible rfl
      try simp [Act.put]
      refine wpAnyH_take (i := 6) (v := .int .i64 (nb : Int)) rfl (by kernel_rfl) (by kernel_rfl) (by kernel_rfl) (fun _ _ _ h => h) (Or.inl ⟨by rfl, ?_⟩) hS ?_
      · intro X hX
        obtain ⟨h1, h2, h3, h4, h5, h6⟩ := hX
        clear hS
        go_simp
        try with_reducible rfl
      try simp [Act.put]
      refine wpAnyH_ready (rs := [4]) (by kernel_rfl) (by simp) ?_
      refine AllReadyH.cons rfl (fun K hK => ?_) AllReadyH.nil
      go_simp
      go_wp2_with (go_at_call 52; refine (unhide HSZ _).mono ?_; rintro e w1 ⟨rfl, b1'⟩; have b1 := (unhide BD).trans (b1'.mono (unhide BD).size); clear b1'; obtain ⟨⟨k1, k2, k4⟩, k3, b2⟩ := unhide HSB w1 b1)
      refine hK.out _ _ ⟨k1, k2, k4⟩ ?_
      clear hK K
      intro hS
      try simp [Act.put]
      refine wpAnyH_ready (rs := [7]) (by kernel_rfl) (by simp) ?_
      refine AllReadyH.cons rfl (fun K hK => ?_) AllReadyH.nil
      go_simp
      rw [unhide HWP]
      refine hK.out _ _ (hS) ?_
      clear hK K
      intro hS
      try simp [Act.put]
      refine wpAnyH_ready (rs := [8]) (by kernel_rfl) (by simp) ?_
      refine AllReadyH.cons rfl (fun K hK => ?_) AllReadyH.nil
      go_simp
      refine hK.out _ _ (hS) ?_
      clear hK K
      intro hS
      try simp [Act.put]
      refine wpAnyH_ready (rs := [9]) (by kernel_rfl) (by simp) ?_
      refine AllReadyH.cons rfl (fun K hK => ?_) AllReadyH.nil
      go_simp
      refine hK.out _ _ (hS) ?_
      clear hK K
      intro hS
      try simp [Act.put]
      refine wpAnyH_done (by kernel_rfl) ?_ _
      clear hS k4
      have B1 := hide b2
      have K3 := hide k3
      clear b1 b2 k3
      go_wp2_with fail
      refine (unhide HRD w1 (unhide B1) (unhide K3) k1 k2 (unhide HLL)).mono ?_
      rintro e w2 ⟨rfl, P⟩
      have HP := hide P
      clear P
      generalize hC : actC d bs = CC at *
      go_wp2_with fail
      go_ret
      obtain ⟨v, v', p1, p2⟩ := unhide (unhide HP)
      exact ⟨by rw [(unhide HE).1]; rfl, v, v', by rw [(unhide HE).2]; exact p1, ((unhide B1).mono hB).trans p2⟩
  · rw [hdn] at c3
    have HE := hide (show wrCode d bs = 2 ∧ wrOut d bs = d by simp [wrCode, wrOut, hdn])
    clear hdn HSZ HRD
    go_enter Try.func59, Try.ntmps59
    go_wp2_with fail
    go_ret
    exact ⟨by rw [(unhide HE).1]; rfl, _, _, by rw [(unhide HE).2]; exact unhide HD _ (wrW_up w g _), unhide HB0⟩
end Go.Proofs.Ytddmomcanakoiaa

set_option linter.unusedVariables false
namespace Go.Proofs.Ytddmomcanakoiaa
open Go.RowKit Go.Maps Go.Deep

def wrV (d : DiskV) (bs : List UInt8) : DiskV := if diskOkB d = true then wrOut d bs else noDisk
def wrI (d : DiskV) (bs : List UInt8) : Int := if diskOkB d = true then wrCode d bs else 1
end Go.Proofs.Ytddmomcanakoiaa
