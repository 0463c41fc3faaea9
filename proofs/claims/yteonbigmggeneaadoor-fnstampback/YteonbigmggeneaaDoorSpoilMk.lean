/-
  What the laws on stamps draw: marks that are spoilt.
-/
import Derived.Test.YteonbigmggeneaaDoorDrawMk
import Derived.Test.YteonbigmggeneaaDoorMksApp
import Derived.Deep.RegionHeld3
set_option linter.unusedVariables false
namespace Go.Proofs.YteonbigmggeneaaDoor
open Go.RowKit Go.Maps Go.Deep

/-- marks are handed back -/
def RetMks (B base g p : Nat) (n : Nat) (w : World) (e : Ending) (w' : World) : Prop := ∃ v xs, e = .returned v ∧ MkHi B w' v xs ∧ Sm n xs ∧ (∃ q, q ≤ p ∧ RdIn base w' g q) ∧ ∃ b, B ≤ b ∧ Turn [g, b] w w'
/-- what the region that copies marks and one more keeps: the box of the one mark, and the marks -/
structure Held (w : World) (gm : Nat) (m : MarkV) (v : Value) (xs : List MarkV) (X : World) : Prop where
  below : Below w.heap.size w X
  c0 : X.cell? ⟨gm, 0, none⟩ = some (.string m.a0)
  c1 : X.cell? ⟨gm, 1, none⟩ = some (.int .i64 m.a1)
  rd : MarkSRd X v xs
theorem Held.up {w X Y : World} {gm : Nat} {m : MarkV} {v : Value} {xs : List MarkV} (h : Held w gm m v xs X) (hg : gm < w.heap.size) (hr : MarkSRd w v xs) (hb : Below w.heap.size X Y) : Held w gm m v xs Y :=
  ⟨h.below.trans hb, (hb.cell (by exact hg)).trans h.c0, (hb.cell (by exact hg)).trans h.c1, hr.up (h.below.trans hb)⟩
/-- the row that is copied to, and the one mark that comes behind -/
theorem grown_below {w X Y : World} {r : Option Nat} (hb : w.heap.size ≤ X.heap.size) (hg : X.grownBy Y r) (hr : ∀ k, r = some k → w.heap.size ≤ k) : Below w.heap.size X Y :=
  ⟨hg.os, hg.tape, hg.output, hg.size, fun k hk => hg.block k (by omega) (fun e => by have := hr k e.symm; omega)⟩
theorem markSRd_turn {w w' : World} {b off n c : Nat} {S : List Nat} {xs : List MarkV} (h : MarkSRd w (.slice (some ⟨b, off, none⟩) n c) xs) (t : Turn S w w') (hb : b < w.heap.size) (hS : b ∉ S) : MarkSRd w' (.slice (some ⟨b, off, none⟩) n c) xs := by
  obtain ⟨a, cap, e, hin⟩ := h
  refine ⟨a, cap, e, ?_⟩
  rcases hin with h | ⟨b', off', e', hb', hc⟩
  · exact .inl h
  · simp only [Value.slice.injEq] at e
    rw [← e.1] at e'
    simp only [Option.some.injEq, Addr.mk.injEq, and_true] at e'
    obtain ⟨rfl, rfl⟩ := e'
    exact .inr ⟨b, off, e.1.symm, Nat.lt_of_lt_of_le hb t.size, hc.turn t hb hS⟩
def spF (j : Nat) : ByteArray := [(⟨#[]⟩ : ByteArray), ⟨#[65]⟩, ⟨#[97, 98, 99, 100, 101, 102, 103, 104, 105]⟩, ⟨#[120, 32, 121]⟩].getD j ⟨#[]⟩
theorem spF_size (j : Nat) : (spF j).size ≤ 100 := by
  match j with
  | 0 | 1 | 2 | 3 => decide
  | n + 4 => simp [spF, ByteArray.size]
theorem Sm.upd {n : Nat} {xs : List MarkV} (h : Sm n xs) (k : Nat) {m : MarkV} (hm : m.a0.size ≤ 100 ∧ VFit m.a1) : Sm n (xs.set k m) :=
  ⟨by simpa using h.1, fun x hx => (List.mem_or_eq_of_mem_set hx).elim (h.2 x) (fun e => by rw [e]; exact hm)⟩
theorem Sm.snoc {n : Nat} {xs : List MarkV} (h : Sm n xs) {m : MarkV} (hm : m.a0.size ≤ 100 ∧ VFit m.a1) : Sm (n + 1) (xs ++ [m]) :=
  ⟨by have := h.1; simp; omega, fun x hx => (List.mem_append.1 hx).elim (h.2 x) (fun e => by simp at e; rw [e]; exact hm)⟩
/-- one mark of a row is written -/
theorem mkHi_set {B b off c : Nat} {w : World} {xs : List MarkV} (hB : B ≤ b) (hb : b < w.heap.size) (h : MarkAt w b off xs) (hf : ∀ i, i < xs.length * 2 → w.frozen? ⟨b, off + i, none⟩ = false) (k : Nat) (hk : k < xs.length) (m : MarkV) :
    MkHi B ((w.setCell ⟨b, off + k * 2, none⟩ (.string m.a0)).setCell ⟨b, off + k * 2 + 1, none⟩ (.int .i64 m.a1)) (.slice (some ⟨b, off, none⟩) xs.length c) (xs.set k m) := by
  have ne : ∀ (X : World) (i j : Nat) (v : Value), i ≠ j → (X.setCell ⟨b, j, none⟩ v).cell? ⟨b, i, none⟩ = X.cell? ⟨b, i, none⟩ := fun X i j v h => World.cell?_setCell_other _ _ _ _ (by intro e; have := congrArg Addr.off e; simp only at this; omega)
  refine ⟨[b], .inr ⟨b, off, c, rfl, by simp, by simpa using hb, fun i hi => ?_, fun i hi => ?_⟩, by simpa using hB⟩
  · have hi' : i < xs.length := by simpa using hi
    obtain ⟨c0, c1⟩ := h i hi'
    obtain ⟨d0, d1⟩ := h k hk
    by_cases e : i = k
    · subst e
      rw [List.getElem_set_self]
      refine ⟨?_, ?_⟩
      · rw [ne _ _ _ _ (by omega)]
        exact World.cell?_setCell_same _ _ _ d0
      · exact World.cell?_setCell_same _ _ _ (by rw [ne _ _ _ _ (by omega)]; exact d1)
    · rw [List.getElem_set_ne (fun q => e q.symm)]
      refine ⟨?_, ?_⟩
      · rw [ne _ _ _ _ (by omega), ne _ _ _ _ (by omega)]; exact c0
      · rw [ne _ _ _ _ (by omega), ne _ _ _ _ (by omega)]; exact c1
  · rw [World.frozen?_setCell, World.frozen?_setCell]
    exact hf i (by simpa using hi)

set_option maxRecDepth 20000 in
set_option maxHeartbeats 6400000 in
theorem l34Spoil_any (B base g p n : Nat) (v : Value) (xs : List MarkV) (w : World) (hp : p ≤ 10000000) (hn : n ≤ 1000) (hB : B ≤ w.heap.size) (hgB : g < B) (hr : RdIn base w g p) (hv : MkHi B w v xs) (hs : Sm n xs) :
    Calls Tryd.prog 33 #[.pointer (some ⟨g, 0, none⟩), v] w fun e w' => RetMks B base g (p + 6) (n + 1) w e w' := by
  have R0 := hide hr
  have V0 := hide hv
  have hlen := hs.1
  have HS := hide hs
  obtain ⟨va, vc, rfl⟩ := hv.rd.len
  clear hr hv hs
  obtain ⟨len, HL⟩ : ∃ len, Hid (xs.length = len) := ⟨_, rfl⟩
  rw [unhide HL] at V0 hlen ⊢
  go_enter Tryd.func33, Tryd.ntmps33
  go_wp2_with fail
  refine (pick_any w base g p 20 (by omega) (by omega) (by omega) (unhide R0)).mono ?_
  rintro e w1 ⟨u, rfl, u0, u1, hr1, ht1⟩
  have R1 := hide hr1
  have T1 := hide ht1
  have V1 := hide ((unhide V0).turn ht1 hgB)
  have z1 := ht1.size
  clear hr1 ht1 R0 V0
  have HNO := hide (show ∀ W, MkHi B W (.slice va len vc) xs → (∃ q, q ≤ p + 6 ∧ RdIn base W g q) → Turn [g] w W → RetMks B base g (p + 6) (n + 1) w (.returned (.slice va len vc)) W from fun W h1 h2 h3 => ⟨_, xs, rfl, h1, (unhide HS).mono (by omega), h2, B, Nat.le_refl _, h3.mono (fun k hk => .inl (by simp at hk; simp [hk]))⟩)
  by_cases hu : u = 0
  · subst hu
    by_cases hl0 : len = 0
    · have q0 : ((len : Int) == 0) = true := by rw [hl0]; rfl
      clear hl0
      go_wp2_with fail
      go_ret
      exact unhide HNO _ (unhide V1) ⟨_, by omega, unhide R1⟩ (unhide T1)
    · have q0 : ((len : Int) == 0) = false := by rw [beq_eq_false_iff_ne]; omega
      go_wp2_with fail
      refine (pick_any w1 base g (p + 1) len (by omega) (by omega) (by omega) (unhide R1)).mono ?_
      rintro e w2 ⟨k', rfl, k0, k1, hr2, ht2⟩
      obtain ⟨k, rfl⟩ := Int.eq_ofNat_of_zero_le k0
      have R2 := hide hr2
      have T2 := hide ((unhide T1).trans ht2)
      have V2 := hide ((unhide V1).turn ht2 hgB)
      have z2 := ht2.size
      have hk : k < xs.length := by rw [unhide HL]; omega
      clear hr2 ht2 R1 T1 V1 k0
      -- the row
      obtain ⟨b, off, hva, hBb, hb2, hat, hfz⟩ : ∃ b off, va = some ⟨b, off, none⟩ ∧ B ≤ b ∧ b < w2.heap.size ∧ MarkAt w2 b off xs ∧ ∀ i, i < xs.length * 2 → w2.frozen? ⟨b, off + i, none⟩ = false := by
        obtain ⟨S, h1, h2⟩ := unhide V2
        rcases h1 with ⟨_, e, _⟩ | ⟨b, off, cap, hS, e, hb, hx, hf⟩
        · subst e; simp at hk
        · simp only [Value.slice.injEq] at e
          obtain ⟨rfl, _, rfl⟩ := e
          exact ⟨b, off, rfl, h2 b (by rw [hS]; simp), hb, hx, hf⟩
      subst hva
      obtain ⟨c0, c1⟩ := hat k hk
      have hkl : (k : Int) < (len : Int) := k1
      have hm := (unhide HS).2 _ (List.getElem_mem hk)
      have HK := hide hk
      generalize xs[k] = m at *
      have HAT := hide hat
      have HFZ := hide hfz
      have bz := (Below.refl w2.heap.size w2).alloc (Nat.le_refl _) (.cells #[.string m.a0, .int .i64 m.a1] 39)
      have BX3 := hide (boxF_new w2 [.string m.a0, .int .i64 m.a1] 39)
      have R3 := hide (RdIn.turn (S := []) (unhide R2) (Turn.of_below bz) (by simp) (by simp))
      have T3 := hide ((unhide T2).trans (Turn.of_below bz))
      have V3 := hide ((unhide V2).up bz)
      have AT3 := hide ((unhide HAT).below bz hb2)
      have FZ3 := hide (fun i hi => (bz.frozen (p := ⟨b, off + i, none⟩) hb2).trans (unhide HFZ i hi))
      have z3 : w2.heap.size < (w2.alloc (.cells #[.string m.a0, .int .i64 m.a1] 39)).heap.size := by simp
      clear hk hat hfz bz R2 T2 V2 HAT HFZ
      go_wp2_with fail
      generalize w2.alloc (.cells #[.string m.a0, .int .i64 m.a1] 39) = W3 at *
      have hgm : w2.heap.size ≠ g := by have := (unhide R3).lt; omega
      have hgb : w2.heap.size ≠ b := by omega
      have hgw : w.heap.size ≤ w2.heap.size := by omega
      have hbase : base ≤ w2.heap.size := by have := (unhide R3).above; omega
      generalize w2.heap.size = gm at *
      refine (pick_any W3 base g (p + 1 + 1) 4 (by omega) (by omega) (by omega) (unhide R3)).mono ?_
      rintro e w4 ⟨x, rfl, x0, x1, hr4, ht4⟩
      have R4 := hide hr4
      have T4 := hide ((unhide T3).trans ht4)
      have V4 := hide ((unhide V3).turn ht4 hgB)
      have AT4 := hide (MarkAt.turn (unhide AT3) ht4 (by omega) (by simp; omega))
      have FZ4 := hide (fun i hi => (ht4.frozen (g := b) (i := off + i) (by omega) (by simp; omega)).trans (unhide FZ3 i hi))
      have BX4 := hide ((unhide BX3).turn ht4 (by simpa using hgm))
      have z4 := ht4.size
      clear hr4 ht4 R3 T3 V3 AT3 FZ3 BX3 c0 c1
      have hbg := (unhide R4).above
      have HFIN := hide (show ∀ (X : World) (m' : MarkV) (q : Nat), MarkAt X b off xs → (∀ i, i < xs.length * 2 → X.frozen? ⟨b, off + i, none⟩ = false) → b < X.heap.size → RdIn base X g q → q ≤ p + 6 → Turn [g] w X → (m'.a0.size ≤ 100 ∧ VFit m'.a1) → RetMks B base g (p + 6) (n + 1) w (.returned (.slice (some ⟨b, off, none⟩) len vc)) ((X.setCell ⟨b, off + k * 2, none⟩ (.string m'.a0)).setCell ⟨b, off + k * 2 + 1, none⟩ (.int .i64 m'.a1)) from fun X m' q h1 h2 h3 h4 h5 h6 h7 => by
        have hh := mkHi_set (c := vc) hBb h3 h1 h2 k (unhide HK) m'
        rw [unhide HL] at hh
        have t2 := ((Turn.refl [b] X).setCell (g := b) (by simp) (off + k * 2) (.string m'.a0)).setCell (g := b) (by simp) (off + k * 2 + 1) (.int .i64 m'.a1)
        refine ⟨_, xs.set k m', rfl, hh, ((unhide HS).upd k h7).mono (by omega), ⟨q, h5, RdIn.turn h4 t2 (by simp; omega) (by simp; omega)⟩, b, hBb, ?_⟩
        exact (h6.mono (fun k hk => .inl (by simp at hk; simp [hk]))).trans (t2.mono (fun k hk => .inl (by simp at hk; simp [hk]))))
      have hbb4 : b < w4.heap.size := by omega
      by_cases x3 : x = 3
      · subst x3
        obtain ⟨s0, s1⟩ := unhide AT4 k (unhide HK)
        have f0 := unhide FZ4 (k * 2) (by have := unhide HK; omega)
        have f1 := unhide FZ4 (k * 2 + 1) (by have := unhide HK; omega)
        rw [← Nat.add_assoc] at f1
        generalize xs[k].a0 = o0 at *
        generalize xs[k].a1 = o1 at *
        obtain ⟨y0, y1⟩ := (unhide BX4).1.two
        have g0 := (unhide BX4).2 0 (by simp)
        have g1 := (unhide BX4).2 1 (by simp)
        go_wp2_with fail
        go_ret
        exact unhide HFIN w4 m _ (unhide AT4) (unhide FZ4) hbb4 (unhide R4) (by omega) (unhide T4) hm
      by_cases x00 : x = 0
      · subst x00
        go_wp2_with fail
        refine (l34Ver_any w4 base g (p + 1 + 1 + 1) (by omega) (unhide R4)).mono ?_
        rintro e w5 ⟨nv, rfl, hnv, ⟨q5, hq5, hr5⟩, ht5⟩
        have R5 := hide hr5
        have T5 := hide ((unhide T4).trans ht5)
        have AT5 := hide (MarkAt.turn (unhide AT4) ht5 (by omega) (by simp; omega))
        have FZ5 := hide (fun i hi => (ht5.frozen (g := b) (i := off + i) (by omega) (by simp; omega)).trans (unhide FZ4 i hi))
        have BX5 := hide ((unhide BX4).turn ht5 (by simpa using hgm))
        have z5 := ht5.size
        clear ht5
        clear hr5
        obtain ⟨s0, s1⟩ := unhide AT5 k (unhide HK)
        have f0 := unhide FZ5 (k * 2) (by have := unhide HK; omega)
        have f1 := unhide FZ5 (k * 2 + 1) (by have := unhide HK; omega)
        rw [← Nat.add_assoc] at f1
        generalize xs[k].a0 = o0 at *
        generalize xs[k].a1 = o1 at *
        obtain ⟨y0, y1⟩ := (unhide BX5).1.two
        have g0 := (unhide BX5).2 0 (by simp)
        have g1 := (unhide BX5).2 1 (by simp)
        go_wp2_with fail
        go_ret
        have tX := (Turn.refl [gm] w5).setCell (g := gm) (by simp) 1 (.int .i64 nv)
        exact unhide HFIN (w5.setCell ⟨gm, 1, none⟩ (.int .i64 nv)) ⟨m.a0, nv⟩ _ (MarkAt.turn (unhide AT5) tX (by omega) (by simp; omega)) (fun i hi => (tX.frozen (g := b) (i := off + i) (by omega) (by simp; omega)).trans (unhide FZ5 i hi)) (by simp; omega) (RdIn.turn (unhide R5) tX (by simp; omega) (by simp; omega)) (by omega) (set_new (unhide T5) hgw 1 (.int .i64 nv)) ⟨hm.1, hnv⟩
      by_cases x11 : x = 1
      · subst x11
        have bz := (Below.refl w4.heap.size w4).alloc (Nat.le_refl _) (.cells #[.string ⟨#[]⟩, .string ⟨#[65]⟩, .string ⟨#[97, 98, 99, 100, 101, 102, 103, 104, 105]⟩, .string ⟨#[120, 32, 121]⟩] 9)
        have HC := hide (show ∀ j, j < 4 → (w4.alloc (.cells #[.string ⟨#[]⟩, .string ⟨#[65]⟩, .string ⟨#[97, 98, 99, 100, 101, 102, 103, 104, 105]⟩, .string ⟨#[120, 32, 121]⟩] 9)).cell? ⟨w4.heap.size, j, none⟩ = some (.string (spF j)) from fun j hj => by
          rw [World.cell?_alloc_at _ _ _ _ rfl]
          match j, hj with
          | 0, _ | 1, _ | 2, _ | 3, _ => rfl)
        have hzz : w4.heap.size < (w4.alloc (.cells #[.string ⟨#[]⟩, .string ⟨#[65]⟩, .string ⟨#[97, 98, 99, 100, 101, 102, 103, 104, 105]⟩, .string ⟨#[120, 32, 121]⟩] 9)).heap.size := by simp
        have R6 := hide (RdIn.turn (S := []) (unhide R4) (Turn.of_below bz) (by simp) (by simp))
        have T6 := hide ((unhide T4).trans (Turn.of_below bz))
        have AT6 := hide ((unhide AT4).below bz hbb4)
        have FZ6 := hide (fun i hi => (bz.frozen (p := ⟨b, off + i, none⟩) hbb4).trans (unhide FZ4 i hi))
        have BX6 := hide ((unhide BX4).up bz)
        have hgl4 := (unhide R4).lt
        clear bz R4 T4 AT4 FZ4 BX4 V4
        go_wp2_with fail
        generalize w4.alloc (.cells #[.string ⟨#[]⟩, .string ⟨#[65]⟩, .string ⟨#[97, 98, 99, 100, 101, 102, 103, 104, 105]⟩, .string ⟨#[120, 32, 121]⟩] 9) = W6 at *
        refine (pick_any W6 base g (p + 1 + 1 + 1) 4 (by omega) (by omega) (by omega) (unhide R6)).mono ?_
        rintro e w5 ⟨y, rfl, yl, yh, hr5, ht5⟩
        have yt : y.toNat < 4 := by omega
        have cy := (ht5.cell hzz (by simp; omega)).trans (unhide HC y.toNat yt)
        have hsp := spF_size y.toNat
        have R5 := hide hr5
        have T5 := hide ((unhide T6).trans ht5)
        have AT5 := hide (MarkAt.turn (unhide AT6) ht5 (by omega) (by simp; omega))
        have FZ5 := hide (fun i hi => (ht5.frozen (g := b) (i := off + i) (by omega) (by simp; omega)).trans (unhide FZ6 i hi))
        have BX5 := hide ((unhide BX6).turn ht5 (by simpa using hgm))
        have z5 := ht5.size
        clear ht5
        clear hr5
        obtain ⟨s0, s1⟩ := unhide AT5 k (unhide HK)
        have f0 := unhide FZ5 (k * 2) (by have := unhide HK; omega)
        have f1 := unhide FZ5 (k * 2 + 1) (by have := unhide HK; omega)
        rw [← Nat.add_assoc] at f1
        generalize xs[k].a0 = o0 at *
        generalize xs[k].a1 = o1 at *
        obtain ⟨y0, y1⟩ := (unhide BX5).1.two
        have g0 := (unhide BX5).2 0 (by simp)
        have g1 := (unhide BX5).2 1 (by simp)
        generalize spF y.toNat = sp at *
        go_wp2_with fail
        go_ret
        have tX := (Turn.refl [gm] w5).setCell (g := gm) (by simp) 0 (.string sp)
        exact unhide HFIN (w5.setCell ⟨gm, 0, none⟩ (.string sp)) ⟨sp, m.a1⟩ _ (MarkAt.turn (unhide AT5) tX (by omega) (by simp; omega)) (fun i hi => (tX.frozen (g := b) (i := off + i) (by omega) (by simp; omega)).trans (unhide FZ5 i hi)) (by simp; omega) (RdIn.turn (unhide R5) tX (by simp; omega) (by simp; omega)) (by omega) (set_new (unhide T5) hgw 0 (.string sp)) ⟨hsp, hm.2⟩
      obtain rfl : x = 2 := by omega
      go_wp2_with fail
      have VV := hide (unhide V4).rd
      have hgl4 : gm < w4.heap.size := (unhide BX4).1.1
      have HSB := hide (show ∀ X, Below w4.heap.size w4 X → X.cell? ⟨gm, 0, none⟩ = some (.string m.a0) ∧ X.cell? ⟨gm, 1, none⟩ = some (.int .i64 m.a1) from fun X hb => ⟨(hb.cell (p := ⟨gm, 0, none⟩) hgl4).trans (unhide BX4).1.two.1, (hb.cell (p := ⟨gm, 1, none⟩) hgl4).trans (unhide BX4).1.two.2⟩)
      have HXN := hide (show xs ≠ [] from fun e => by have := unhide HK; rw [e] at this; simp at this)
      have HEND := hide (show ∀ X u, MkRow w4.heap.size X u ([] ++ xs ++ [m]) → Below w4.heap.size w4 X → RetMks B base g (p + 6) (n + 1) w (.returned u) X from fun X u h1 h2 => ⟨u, xs ++ [m], rfl, by have := h1.hi; rw [List.nil_append] at this; exact this.mono (by omega), (unhide HS).snoc hm, ⟨_, by omega, RdIn.turn (S := []) (unhide R4) (Turn.of_below h2) (by simp) (by simp)⟩, B, Nat.le_refl _, ((unhide T4).trans (Turn.of_below h2)).mono (fun k hk => .inl (by simp at hk; simp [hk]))⟩)
      have BD := hide (show Below w4.heap.size w4 w4.drew from (Below.refl _ _).drew)
      have hS : w4.drew.cell? ⟨gm, 0, none⟩ = some (.string m.a0) ∧ w4.drew.cell? ⟨gm, 1, none⟩ = some (.int .i64 m.a1) := unhide HSB _ (unhide BD)
      clear R4 T4 V4 AT4 FZ4 BX4 HFIN HNO
      refine wp_region_held_drew (S := fun X : World => X.cell? ⟨gm, 0, none⟩ = some (.string m.a0) ∧ X.cell? ⟨gm, 1, none⟩ = some (.int .i64 m.a1)) (by kernel_rfl) hS ?_
      intro hS
      refine wpAnyH_take (i := 1) (v := .slice (some ⟨b, off, none⟩) len vc) rfl (by kernel_rfl) (by kernel_rfl) (by kernel_rfl) (fun _ _ _ h => h) (Or.inl ⟨by rfl, ?_⟩) hS ?_
      · intro X hX
        obtain ⟨h1, h2⟩ := hX
        clear hS
        go_simp
        try with_reducible rfl
      try simp [Act.put]
      refine wpAnyH_take (i := 3) (v := .agg #[.string m.a0, .int .i64 m.a1]) rfl (by kernel_rfl) (by kernel_rfl) (by kernel_rfl) (fun _ _ _ h => h) (Or.inl ⟨by rfl, ?_⟩) hS ?_
      · intro X hX
        obtain ⟨h1, h2⟩ := hX
        clear hS
        go_simp
        try with_reducible rfl
      try simp [Act.put]
      refine wpAnyH_ready (rs := [0, 4]) (by kernel_rfl) (by simp) ?_
      refine AllReadyH.cons rfl (fun K hK => ?_) (AllReadyH.cons rfl (fun K hK => ?_) AllReadyH.nil)
      · skip
        go_simp
        have bz1 := (Below.refl w4.drew.heap.size w4.drew).alloc (Nat.le_refl _) (.cells #[] 39)
        have BB2 := hide ((unhide BD).trans (bz1.mono (unhide BD).size))
        have RW4 := hide (mkLit0 w4.drew w4.heap.size (unhide BD).size)
        have zzA3 : w4.drew.heap.size < (w4.drew.alloc (.cells #[] 39)).heap.size := by simp
        have yyA3 : w4.heap.size ≤ w4.drew.heap.size := (unhide BD).size
        refine hK.out _ _ (unhide HSB _ (unhide BB2)) ?_
        clear hK K
        intro hS
        try simp [Act.put]
        clear bz1
        refine wpAnyH_ready (rs := [2, 4]) (by kernel_rfl) (by simp) ?_
        refine AllReadyH.cons rfl (fun K hK => ?_) (AllReadyH.cons rfl (fun K hK => ?_) AllReadyH.nil)
        · skip
          refine step_mksAppend rfl (.tmp 41) (.tmp 42) rfl w4.heap.size (.slice (some ⟨w4.drew.heap.size, 0, none⟩) 0 0) (.slice (some ⟨b, off, none⟩) len vc) [] xs (by first | rfl | simp [Act.eval]) (by first | rfl | simp [Act.eval]) (unhide RW4) ((unhide VV).up (unhide BB2)) (unhide HXN) (by have := (unhide HS).1; simp; omega) (unhide BB2).size ?_
          intro gg5 ngg5 cgg5 A6 hngg5 rgg5 wgg5 ogg5
          have RW7 := hide rgg5
          have tgg5 := grown_below (w := w4) (unhide BB2).size wgg5 (fun k hk => (unhide RW4).ge k hk)
          have BB8 := hide ((unhide BB2).trans tgg5)
          clear rgg5 tgg5 wgg5 ogg5 hngg5
          refine hK.out _ _ (unhide HSB _ (unhide BB8)) ?_
          clear hK K
          intro hS
          try simp [Act.put]
          refine wpAnyH_ready (rs := [4]) (by kernel_rfl) (by simp) ?_
          refine AllReadyH.cons rfl (fun K hK => ?_) AllReadyH.nil
          go_simp
          have bz9 := (Below.refl A6.heap.size A6).alloc (Nat.le_refl _) (.cells #[.string m.a0, .int .i64 m.a1] 39)
          have BB10 := hide ((unhide BB8).trans (bz9.mono (unhide BB8).size))
          have ML12 := hide (mkLit1 A6 m)
          have zzA11 : A6.heap.size < (A6.alloc (.cells #[.string m.a0, .int .i64 m.a1] 39)).heap.size := by simp
          have yyA11 : w4.heap.size ≤ A6.heap.size := (unhide BB8).size
          have RW13 := hide ((unhide RW7).up bz9)
          refine hK.out _ _ (unhide HSB _ (unhide BB10)) ?_
          clear hK K
          intro hS
          try simp [Act.put]
          clear bz9
          refine wpAnyH_ready (rs := [5]) (by kernel_rfl) (by simp) ?_
          refine AllReadyH.cons rfl (fun K hK => ?_) AllReadyH.nil
          refine step_mksAppend rfl (.tmp 43) (.tmp 45) rfl w4.heap.size (.slice (some ⟨gg5, 0, none⟩) ngg5 cgg5) (.slice (some ⟨A6.heap.size, 0, none⟩) 1 1) ([] ++ xs) [m] (by first | rfl | simp [Act.eval]) (by first | rfl | simp [Act.eval]) (unhide RW13) (unhide ML12) (by simp) (by have := (unhide HS).1; simp; omega) (unhide BB10).size ?_
          intro gg14 ngg14 cgg14 A15 hngg14 rgg14 wgg14 ogg14
          have RW16 := hide rgg14
          have tgg14 := grown_below (w := w4) (unhide BB10).size wgg14 (fun k hk => (unhide RW13).ge k hk)
          have BB17 := hide ((unhide BB10).trans tgg14)
          clear rgg14 tgg14 wgg14 ogg14 hngg14
          refine hK.out _ _ (unhide HSB _ (unhide BB17)) ?_
          clear hK K
          intro hS
          try simp [Act.put]
          refine wpAnyH_ready (rs := [6]) (by kernel_rfl) (by simp) ?_
          refine AllReadyH.cons rfl (fun K hK => ?_) AllReadyH.nil
          go_simp
          refine hK.out _ _ (unhide HSB _ (unhide BB17)) ?_
          clear hK K
          intro hS
          try simp [Act.put]
          refine wpAnyH_done (by kernel_rfl) ?_ _
          go_wp2_with fail
          go_ret
          exact unhide HEND _ _ (unhide RW16) (unhide BB17)
        · skip
          go_simp
          have bz18 := (Below.refl (w4.drew.alloc (.cells #[] 39)).heap.size (w4.drew.alloc (.cells #[] 39))).alloc (Nat.le_refl _) (.cells #[.string m.a0, .int .i64 m.a1] 39)
          have BB19 := hide ((unhide BB2).trans (bz18.mono (unhide BB2).size))
          have ML21 := hide (mkLit1 (w4.drew.alloc (.cells #[] 39)) m)
          have zzA20 : (w4.drew.alloc (.cells #[] 39)).heap.size < ((w4.drew.alloc (.cells #[] 39)).alloc (.cells #[.string m.a0, .int .i64 m.a1] 39)).heap.size := by simp
          have yyA20 : w4.heap.size ≤ (w4.drew.alloc (.cells #[] 39)).heap.size := (unhide BB2).size
          have RW22 := hide ((unhide RW4).up bz18)
          refine hK.out _ _ (unhide HSB _ (unhide BB19)) ?_
          clear hK K
          intro hS
          try simp [Act.put]
          clear bz18
          refine wpAnyH_ready (rs := [2]) (by kernel_rfl) (by simp) ?_
          refine AllReadyH.cons rfl (fun K hK => ?_) AllReadyH.nil
          refine step_mksAppend rfl (.tmp 41) (.tmp 42) rfl w4.heap.size (.slice (some ⟨w4.drew.heap.size, 0, none⟩) 0 0) (.slice (some ⟨b, off, none⟩) len vc) [] xs (by first | rfl | simp [Act.eval]) (by first | rfl | simp [Act.eval]) (unhide RW22) ((unhide VV).up (unhide BB19)) (unhide HXN) (by have := (unhide HS).1; simp; omega) (unhide BB19).size ?_
          intro gg23 ngg23 cgg23 A24 hngg23 rgg23 wgg23 ogg23
          have RW25 := hide rgg23
          have tgg23 := grown_below (w := w4) (unhide BB19).size wgg23 (fun k hk => (unhide RW22).ge k hk)
          have BB26 := hide ((unhide BB19).trans tgg23)
          have ML27 := hide (markSRd_turn (unhide ML21) (Turn.of_grown (S := [w4.drew.heap.size]) wgg23 (fun k hk => .inl (by simp [Value.ownBlock] at hk; simp [hk]))) (by simp; try omega) (by simp; try omega))
          clear rgg23 tgg23 wgg23 ogg23 hngg23
          refine hK.out _ _ (unhide HSB _ (unhide BB26)) ?_
          clear hK K
          intro hS
          try simp [Act.put]
          refine wpAnyH_ready (rs := [5]) (by kernel_rfl) (by simp) ?_
          refine AllReadyH.cons rfl (fun K hK => ?_) AllReadyH.nil
          refine step_mksAppend rfl (.tmp 43) (.tmp 45) rfl w4.heap.size (.slice (some ⟨gg23, 0, none⟩) ngg23 cgg23) (.slice (some ⟨(w4.drew.alloc (.cells #[] 39)).heap.size, 0, none⟩) 1 1) ([] ++ xs) [m] (by first | rfl | simp [Act.eval]) (by first | rfl | simp [Act.eval]) (unhide RW25) (unhide ML27) (by simp) (by have := (unhide HS).1; simp; omega) (unhide BB26).size ?_
          intro gg28 ngg28 cgg28 A29 hngg28 rgg28 wgg28 ogg28
          have RW30 := hide rgg28
          have tgg28 := grown_below (w := w4) (unhide BB26).size wgg28 (fun k hk => (unhide RW25).ge k hk)
          have BB31 := hide ((unhide BB26).trans tgg28)
          clear rgg28 tgg28 wgg28 ogg28 hngg28
          refine hK.out _ _ (unhide HSB _ (unhide BB31)) ?_
          clear hK K
          intro hS
          try simp [Act.put]
          refine wpAnyH_ready (rs := [6]) (by kernel_rfl) (by simp) ?_
          refine AllReadyH.cons rfl (fun K hK => ?_) AllReadyH.nil
          go_simp
          refine hK.out _ _ (unhide HSB _ (unhide BB31)) ?_
          clear hK K
          intro hS
          try simp [Act.put]
          refine wpAnyH_done (by kernel_rfl) ?_ _
          go_wp2_with fail
          go_ret
          exact unhide HEND _ _ (unhide RW30) (unhide BB31)
      · skip
        go_simp
        have bz32 := (Below.refl w4.drew.heap.size w4.drew).alloc (Nat.le_refl _) (.cells #[.string m.a0, .int .i64 m.a1] 39)
        have BB33 := hide ((unhide BD).trans (bz32.mono (unhide BD).size))
        have ML35 := hide (mkLit1 w4.drew m)
        have zzA34 : w4.drew.heap.size < (w4.drew.alloc (.cells #[.string m.a0, .int .i64 m.a1] 39)).heap.size := by simp
        have yyA34 : w4.heap.size ≤ w4.drew.heap.size := (unhide BD).size
        refine hK.out _ _ (unhide HSB _ (unhide BB33)) ?_
        clear hK K
        intro hS
        try simp [Act.put]
        clear bz32
        refine wpAnyH_ready (rs := [0]) (by kernel_rfl) (by simp) ?_
        refine AllReadyH.cons rfl (fun K hK => ?_) AllReadyH.nil
        go_simp
        have bz36 := (Below.refl (w4.drew.alloc (.cells #[.string m.a0, .int .i64 m.a1] 39)).heap.size (w4.drew.alloc (.cells #[.string m.a0, .int .i64 m.a1] 39))).alloc (Nat.le_refl _) (.cells #[] 39)
        have BB37 := hide ((unhide BB33).trans (bz36.mono (unhide BB33).size))
        have RW39 := hide (mkLit0 (w4.drew.alloc (.cells #[.string m.a0, .int .i64 m.a1] 39)) w4.heap.size (unhide BB33).size)
        have zzA38 : (w4.drew.alloc (.cells #[.string m.a0, .int .i64 m.a1] 39)).heap.size < ((w4.drew.alloc (.cells #[.string m.a0, .int .i64 m.a1] 39)).alloc (.cells #[] 39)).heap.size := by simp
        have yyA38 : w4.heap.size ≤ (w4.drew.alloc (.cells #[.string m.a0, .int .i64 m.a1] 39)).heap.size := (unhide BB33).size
        have ML40 := hide ((unhide ML35).up bz36)
        refine hK.out _ _ (unhide HSB _ (unhide BB37)) ?_
        clear hK K
        intro hS
        try simp [Act.put]
        clear bz36
        refine wpAnyH_ready (rs := [2]) (by kernel_rfl) (by simp) ?_
        refine AllReadyH.cons rfl (fun K hK => ?_) AllReadyH.nil
        refine step_mksAppend rfl (.tmp 41) (.tmp 42) rfl w4.heap.size (.slice (some ⟨(w4.drew.alloc (.cells #[.string m.a0, .int .i64 m.a1] 39)).heap.size, 0, none⟩) 0 0) (.slice (some ⟨b, off, none⟩) len vc) [] xs (by first | rfl | simp [Act.eval]) (by first | rfl | simp [Act.eval]) (unhide RW39) ((unhide VV).up (unhide BB37)) (unhide HXN) (by have := (unhide HS).1; simp; omega) (unhide BB37).size ?_
        intro gg41 ngg41 cgg41 A42 hngg41 rgg41 wgg41 ogg41
        have RW43 := hide rgg41
        have tgg41 := grown_below (w := w4) (unhide BB37).size wgg41 (fun k hk => (unhide RW39).ge k hk)
        have BB44 := hide ((unhide BB37).trans tgg41)
        have ML45 := hide (markSRd_turn (unhide ML40) (Turn.of_grown (S := [(w4.drew.alloc (.cells #[.string m.a0, .int .i64 m.a1] 39)).heap.size]) wgg41 (fun k hk => .inl (by simp [Value.ownBlock] at hk; simp [hk]))) (by simp; try omega) (by simp; try omega))
        clear rgg41 tgg41 wgg41 ogg41 hngg41
        refine hK.out _ _ (unhide HSB _ (unhide BB44)) ?_
        clear hK K
        intro hS
        try simp [Act.put]
        refine wpAnyH_ready (rs := [5]) (by kernel_rfl) (by simp) ?_
        refine AllReadyH.cons rfl (fun K hK => ?_) AllReadyH.nil
        refine step_mksAppend rfl (.tmp 43) (.tmp 45) rfl w4.heap.size (.slice (some ⟨gg41, 0, none⟩) ngg41 cgg41) (.slice (some ⟨w4.drew.heap.size, 0, none⟩) 1 1) ([] ++ xs) [m] (by first | rfl | simp [Act.eval]) (by first | rfl | simp [Act.eval]) (unhide RW43) (unhide ML45) (by simp) (by have := (unhide HS).1; simp; omega) (unhide BB44).size ?_
        intro gg46 ngg46 cgg46 A47 hngg46 rgg46 wgg46 ogg46
        have RW48 := hide rgg46
        have tgg46 := grown_below (w := w4) (unhide BB44).size wgg46 (fun k hk => (unhide RW43).ge k hk)
        have BB49 := hide ((unhide BB44).trans tgg46)
        clear rgg46 tgg46 wgg46 ogg46 hngg46
        refine hK.out _ _ (unhide HSB _ (unhide BB49)) ?_
        clear hK K
        intro hS
        try simp [Act.put]
        refine wpAnyH_ready (rs := [6]) (by kernel_rfl) (by simp) ?_
        refine AllReadyH.cons rfl (fun K hK => ?_) AllReadyH.nil
        go_simp
        refine hK.out _ _ (unhide HSB _ (unhide BB49)) ?_
        clear hK K
        intro hS
        try simp [Act.put]
        refine wpAnyH_done (by kernel_rfl) ?_ _
        go_wp2_with fail
        go_ret
        exact unhide HEND _ _ (unhide RW48) (unhide BB49)
  · have e1 : (u != 0) = true := by simpa using hu
    clear hu
    go_wp2_with fail
    go_ret
    exact unhide HNO _ (unhide V1) ⟨_, by omega, unhide R1⟩ (unhide T1)
end Go.Proofs.YteonbigmggeneaaDoor
