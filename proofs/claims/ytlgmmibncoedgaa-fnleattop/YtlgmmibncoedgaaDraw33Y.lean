/-
  The specification's draw of who listens. (Made by wip/mksplitdraw.py.)
-/
import Derived.Test.YtlgmmibncoedgaaDraw33X
import Derived.Test.YtlgmmibncoedgaaSplitFeedS
set_option linter.unusedVariables false
namespace Go.Proofs.Ytlgmmibncoedgaa
open Go.RowKit Go.Maps Go.Deep
def RetSp33 (base g N : Nat) (w0 w : World) (e : Ending) (w' : World) : Prop := ∃ a n c l bs, e = .returned (.agg #[.slice a n c, .int .i64 l]) ∧ Hid (ByRow w.heap.size w' (.slice a n c) bs) ∧ Hid (bs.length ≤ 2000) ∧ Hid (Rdy base g N w0 w') ∧ Hid (w.heap.size ≤ w'.heap.size)
theorem byLitM3 (w : World) (B : Nat) (hB : B ≤ w.heap.size) : ByRow B (w.alloc (.cells #[.int .u8 245, .int .u8 1, .int .u8 4] 5)) (.slice (some ⟨w.heap.size, 0, none⟩) 3 3) [245, 1, 4] := by
  have := World.ownsRow_lit (size := 1) (base := B) (e := 5) w #[.int .u8 245, .int .u8 1, .int .u8 4] 3 hB (by unfold maxLen; omega) rfl
  unfold ByRow
  simp only [List.map, byV]
  exact this
theorem feed_buf (v : Int) (st : List UInt8) : (feedS ⟨[], v⟩ st).buf.length ≤ st.length := by
  unfold feedS
  split
  · have := (walk_len ([] ++ st)).1
    simp only [List.nil_append] at this ⊢
    omega
  · simp
set_option maxRecDepth 20000 in
set_option maxHeartbeats 25600000 in
theorem l33Split_any (base g N : Nat) (w0 w : World) (hN : N ≤ 10000) (h : Rdy base g N w0 w) :
    Calls Try.prog 47 #[.pointer (some ⟨g, 0, none⟩)] w fun e w' => RetSp33 base g (N + 7000) w0 w e w' := by
  have HS0 := hide h.size
  have HGL := hide (Nat.lt_of_lt_of_le h.lt h.size)
  have X0 := hide (boxF_new w [.slice none 0 0, .int .i64 0] 35)
  have HA := hide (h.alloc (.cells #[.slice none 0 0, .int .i64 0] 35))
  have HZA := hide (show (w.alloc (.cells #[.slice none 0 0, .int .i64 0] 35)).heap.size = w.heap.size + 1 by simp)
  simp only [List.toArray] at X0
  clear h
  go_enter Try.func47, Try.ntmps47
  go_wp2_with fail
  generalize w.alloc (.cells #[.slice none 0 0, .int .i64 0] 35) = W1 at *
  refine (pick_rdy base g N 5 w0 W1 (by omega) (by omega) (by omega) (unhide HA)).mono ?_
  rintro e w2 ⟨v, rfl, hv, D2, T2⟩
  have X2 := hide ((unhide X0).turn (unhide T2) (by have := unhide HGL; simp; omega))
  have HSM := hide (l33Stream_any base g (N + 1) w2 w2 (by omega) (unhide D2).self)
  have Z2 := hide (show w.heap.size + 1 ≤ w2.heap.size by have := unhide HZA; have := (unhide T2).size; omega)
  clear T2 X0 HA HZA
  go_wp2_with fail
  refine (unhide HSM).mono ?_
  rintro e w3 ⟨a3, n3, c3, st, rfl, R3, L3, D33, Z3⟩
  have X3 := hide ((unhide X2).turn (unhide D33).turn (by have := unhide HGL; simp; omega))
  have D3 := hide ((unhide D2).on (unhide D33))
  have ZZ3 := hide (Nat.le_trans (unhide Z2) (unhide Z3))
  have HFD := hide (specFeed_row ⟨[], (v : Int)⟩ (.agg #[.slice none 0 0, .int .i64 (v : Int)]) st _ w3 (by unfold SmallSplit; simp) (by have := unhide L3; unfold SmallByteS; omega) ⟨_, rfl, ByRd.nil _ _ _⟩ (unhide R3).rd)
  clear X2 D2 D33 Z2 Z3 R3 HSM
  go_wp2_with fail
  refine (unhide HFD).mono ?_
  rintro e w4 ⟨v0, vr, rfl, RB, RR, b4⟩
  have X4 := hide ((unhide X3).up b4)
  have D4 := hide ((unhide D3).up b4)
  have RB4 := hide ((unhide RB).mono (show w.heap.size + 1 ≤ w3.heap.size from unhide ZZ3))
  have LB := hide (show (feedS ⟨[], (v : Int)⟩ st).buf.length ≤ 1500 from Nat.le_trans (feed_buf _ _) (unhide L3))
  have ZZ4 := hide (Nat.le_trans (unhide ZZ3) b4.size)
  obtain ⟨ba, bn, bc, rfl⟩ := (unhide RB).rd.form
  obtain ⟨ra, rn, rc, rfl⟩ := (unhide RR).form
  clear b4 X3 D3 RB RR ZZ3 HFD L3
  generalize (feedS ⟨[], (v : Int)⟩ st).buf = bf at *
  generalize (feedS ⟨[], (v : Int)⟩ st).lost = lo at *
  generalize feedB ⟨[], (v : Int)⟩ st = okb at *
  have XS5 := hide (boxF_new w4 [.slice ba bn bc, .int .i64 lo] 35)
  have A5 := hide ((Below.refl w4.heap.size w4).alloc (Nat.le_refl _) (.cells #[.slice ba bn bc, .int .i64 lo] 35))
  simp only [List.toArray] at XS5
  have XR5 := hide ((unhide X4).up (unhide A5))
  have D5 := hide ((unhide D4).up (unhide A5))
  have RB5 := hide ((unhide RB4).up (unhide A5))
  have HGS := hide (unhide ZZ4)
  have HLOW := hide (show ∀ y, (Value.slice ba bn bc).ownBlock = some y → y < w4.heap.size from fun y hy => (unhide RB4).lt y hy)
  have Z5 := hide (Nat.le_trans (unhide ZZ4) (unhide A5).size)
  clear X4 D4 RB4 ZZ4 A5
  go_wp2_with fail
  generalize w4.alloc (.cells #[.slice ba bn bc, .int .i64 lo] 35) = W5 at *
  generalize w4.heap.size = gs at *
  refine (pick_rdy base g _ 30 w0 W5 (by omega) (by omega) (by omega) (unhide D5)).mono ?_
  rintro e w6 ⟨z, rfl, hz, D6, T6⟩
  have XS6 := hide ((unhide XS5).turn (unhide T6) (by have := unhide HGL; have := unhide HGS; simp; omega))
  have XR6 := hide ((unhide XR5).turn (unhide T6) (by have := unhide HGL; simp; omega))
  have RB6 := hide ((unhide RB5).turn (unhide T6) (fun y hy => by have := (unhide RB5).ge y hy; have := unhide HGL; simp; omega))
  have Z6 := hide (Nat.le_trans (unhide Z5) (unhide T6).size)
  clear XS5 XR5 RB5 T6 D5 Z5
  by_cases h0 : z = 0
  · subst h0
    go_upto_region 4 with fail
    have DX := hide ((unhide D6).up (Below.refl _ _).drew)
    have XSX := hide ((unhide XS6).up (Below.refl _ _).drew)
    have XRX := hide ((unhide XR6).up (Below.refl _ _).drew)
    have RBX := hide ((unhide RB6).up (Below.refl _ _).drew)
    have ZX := hide (Nat.le_trans (unhide Z6) (Below.refl w6.heap.size w6).drew.size)
    clear D6 XS6 XR6 RB6 Z6
    refine wp_region_any (by kernel_rfl) ?_
    change wpAny _ _ _ _ _ _ _ (World.drew _)
    generalize w6.drew = WX at *
    obtain ⟨⟨e0, e1⟩, f0, f1⟩ := two33 (unhide XSX)
    refine wpAny_take (i := 0) (v := .pointer (some ⟨gs, 0, none⟩)) rfl (by kernel_rfl) (by kernel_rfl) (by kernel_rfl) (fun _ _ _ h => h) (Or.inl ⟨by rfl, ?_⟩) ?_
    · intro w'
      go_simp
      try with_reducible rfl
    try simp [Act.put]
    refine wpAny_take (i := 2) (v := .pointer (some ⟨g, 0, none⟩)) rfl (by kernel_rfl) (by kernel_rfl) (by kernel_rfl) (fun _ _ _ h => h) (Or.inl ⟨by rfl, ?_⟩) ?_
    · intro w'
      go_simp
      try with_reducible rfl
    try simp [Act.put]
    have HRW := hide (l33Raw_any base g _ 2 WX WX (by omega) (by omega) (unhide DX).self)
    refine wpAny_ready (rs := [1, 3]) (by kernel_rfl) (by simp) ?_
    refine AllReady.cons rfl (fun K hK => ?_) (AllReady.cons rfl (fun K hK => ?_) (AllReady.nil))
    · skip
      have hKK := hK
      clear hK
      go_simp
      refine hKK _ _ ?_
      clear hKK K
      try simp [Act.put]
      refine wpAny_ready (rs := [3]) (by kernel_rfl) (by simp) ?_
      refine AllReady.cons rfl (fun K hK => ?_) (AllReady.nil)
      have hKK := hK
      clear hK
      go_simp
      refine (unhide HRW).mono ?_
      rintro e w8 ⟨a8, c8, rb, rfl, R8, hrl, D88, Z8⟩
      have RB8 := hide ((unhide RBX).turn (unhide D88).turn (fun y hy => by have := (unhide RBX).ge y hy; have := unhide HGL; simp; omega))
      have XS8 := hide ((unhide XSX).turn (unhide D88).turn (by have := unhide HGL; have := unhide HGS; simp; omega))
      have XR8 := hide ((unhide XRX).turn (unhide D88).turn (by have := unhide HGL; simp; omega))
      have D8 := hide ((unhide DX).on (unhide D88))
      have RD8 := hide (unhide R8).rd
      have Z88 := hide (Nat.le_trans (unhide ZX) (unhide Z8))
      have HLS := hide (show bf.length + rb.length ≤ 140737488355328 by have := unhide LB; omega)
      have L8 := hide (show (bf ++ rb).length ≤ 1600 by rw [List.length_append]; have := unhide LB; omega)
      refine hKK _ _ ?_
      clear hKK K RBX XSX XRX DX D88 R8 Z8 ZX HRW e0 e1 f0 f1
      obtain ⟨⟨e0, e1⟩, f0, f1⟩ := two33 (unhide XS8)
      try simp [Act.put]
      refine wpAny_ready (rs := [4]) (by kernel_rfl) (by simp) ?_
      refine AllReady.cons rfl (fun K hK => ?_) (AllReady.nil)
      refine step_byAppend (w := w8) rfl _ _ rfl (w.heap.size + 1) (.slice ba bn bc) (.slice a8 2 c8) bf rb rfl rfl (unhide RB8) (unhide RD8) (unhide HLS) (unhide Z88) ?_
      intro a9 n9 c9 w9 r9 g9 hob
      have T9 : Turn (Value.slice ba bn bc).ownBlock.toList w8 w9 := Turn.of_grown g9 (fun k hk => .inl (by rw [hk]; simp))
      have XS9 := hide ((unhide XS8).turn T9 (fun hm => by have := unhide HLOW gs (by simpa using hm); omega))
      have XR9 := hide ((unhide XR8).turn T9 (fun hm => by have := (unhide RB8).ge w.heap.size (by simpa using hm); omega))
      have D9 := hide ((unhide D8).turns T9 (fun k hm => by have := (unhide RB8).ge k (by simpa using hm); have := unhide HS0; omega))
      have R9 := hide r9
      have Z9 := hide (Nat.le_trans (unhide Z88) g9.size)
      have HL9 := hide (show ∀ y, (Value.slice a9 n9 c9).ownBlock = some y → y ≠ gs from fun y hy e => by
        subst e
        rcases hob with h | h
        · have := unhide HLOW y (h ▸ hy); omega
        · have := h y hy; have := (unhide XS8).1.1; omega)
      refine hK _ _ ?_
      clear hK K r9 g9 hob T9 RB8 XS8 XR8 D8 RD8 Z88 e0 e1 f0 f1
      obtain ⟨⟨e0, e1⟩, f0, f1⟩ := two33 (unhide XS9)
      try simp [Act.put]
      refine wpAny_take (i := 5) (v := .pointer (some ⟨gs, 0, none⟩)) rfl (by kernel_rfl) (by kernel_rfl) (by kernel_rfl) (fun _ _ _ h => h) (Or.inl ⟨by rfl, ?_⟩) ?_
      · intro w'
        go_simp
        try with_reducible rfl
      try simp [Act.put]
      refine wpAny_ready (rs := [6]) (by kernel_rfl) (by simp) ?_
      refine AllReady.cons rfl (fun K hK => ?_) (AllReady.nil)
      have hKK := hK
      clear hK
      go_simp
      refine hKK _ _ ?_
      clear hKK K
      try simp [Act.put]
      refine wpAny_done (by kernel_rfl) ?_ _
      have T10 : Turn [gs] w9 (w9.setCell ⟨gs, 0, none⟩ (.slice a9 n9 c9)) := (Turn.refl _ _).setCell (by simp) _ _
      have XS10 := hide ((unhide XS9).set 0 (.slice a9 n9 c9) (by simp))
      have XR10 := hide ((unhide XR9).turn T10 (by have := unhide HGS; simp; omega))
      have R10 := hide ((unhide R9).turn T10 (fun y hy => by have := unhide HL9 y hy; simpa using this))
      have D10 := hide ((unhide D9).turns T10 (by have := unhide HS0; have := unhide HGS; simp; omega))
      have Z10 := hide (Nat.le_trans (unhide Z9) T10.size)
      clear XS9 XR9 R9 D9 Z9 T10 e0 e1 f0 f1
      simp only [List.set] at XS10
      obtain ⟨⟨s0, s1⟩, -⟩ := two33 (unhide XS10)
      obtain ⟨⟨y0, y1⟩, z0, z1⟩ := two33 (unhide XR10)
      have HE := hide (fun (V : World) (t : Turn [w.heap.size] (w9.setCell ⟨gs, 0, none⟩ (.slice a9 n9 c9)) V) => show RetSp33 base g (N + 7000) w0 w (.returned (.agg #[.slice a9 n9 c9, .int .i64 lo])) V from
        ⟨_, _, _, _, (bf ++ rb), rfl, hide (((unhide R10).turn t (fun y hy => by have := (unhide R10).ge y hy; simp; omega)).mono (by omega)), hide (by have := unhide L8; omega), hide (((unhide D10).turns t (by have := unhide HS0; simp; omega)).more (by omega)), hide (Nat.le_trans (by have := unhide Z10; omega) t.size)⟩)
      clear XS10 XR10 R10 D10 Z10
      go_wp2_with fail
      refine bodyPost_ret (v := .agg #[.slice a9 n9 c9, .int .i64 lo]) (by simp [results, Try.results47, go_sem, y0, y1]) rfl ?_
      exact unhide HE _ (((Turn.refl [w.heap.size] (w9.setCell ⟨gs, 0, none⟩ (.slice a9 n9 c9))).setCell (g := w.heap.size) (by simp) _ _).setCell (g := w.heap.size) (by simp) _ _)
    · skip
      have hKK := hK
      clear hK
      go_simp
      refine (unhide HRW).mono ?_
      rintro e w8 ⟨a8, c8, rb, rfl, R8, hrl, D88, Z8⟩
      have RB8 := hide ((unhide RBX).turn (unhide D88).turn (fun y hy => by have := (unhide RBX).ge y hy; have := unhide HGL; simp; omega))
      have XS8 := hide ((unhide XSX).turn (unhide D88).turn (by have := unhide HGL; have := unhide HGS; simp; omega))
      have XR8 := hide ((unhide XRX).turn (unhide D88).turn (by have := unhide HGL; simp; omega))
      have D8 := hide ((unhide DX).on (unhide D88))
      have RD8 := hide (unhide R8).rd
      have Z88 := hide (Nat.le_trans (unhide ZX) (unhide Z8))
      have HLS := hide (show bf.length + rb.length ≤ 140737488355328 by have := unhide LB; omega)
      have L8 := hide (show (bf ++ rb).length ≤ 1600 by rw [List.length_append]; have := unhide LB; omega)
      refine hKK _ _ ?_
      clear hKK K RBX XSX XRX DX D88 R8 Z8 ZX HRW e0 e1 f0 f1
      obtain ⟨⟨e0, e1⟩, f0, f1⟩ := two33 (unhide XS8)
      try simp [Act.put]
      refine wpAny_ready (rs := [1]) (by kernel_rfl) (by simp) ?_
      refine AllReady.cons rfl (fun K hK => ?_) (AllReady.nil)
      have hKK := hK
      clear hK
      go_simp
      refine hKK _ _ ?_
      clear hKK K
      try simp [Act.put]
      refine wpAny_ready (rs := [4]) (by kernel_rfl) (by simp) ?_
      refine AllReady.cons rfl (fun K hK => ?_) (AllReady.nil)
      refine step_byAppend (w := w8) rfl _ _ rfl (w.heap.size + 1) (.slice ba bn bc) (.slice a8 2 c8) bf rb rfl rfl (unhide RB8) (unhide RD8) (unhide HLS) (unhide Z88) ?_
      intro a9 n9 c9 w9 r9 g9 hob
      have T9 : Turn (Value.slice ba bn bc).ownBlock.toList w8 w9 := Turn.of_grown g9 (fun k hk => .inl (by rw [hk]; simp))
      have XS9 := hide ((unhide XS8).turn T9 (fun hm => by have := unhide HLOW gs (by simpa using hm); omega))
      have XR9 := hide ((unhide XR8).turn T9 (fun hm => by have := (unhide RB8).ge w.heap.size (by simpa using hm); omega))
      have D9 := hide ((unhide D8).turns T9 (fun k hm => by have := (unhide RB8).ge k (by simpa using hm); have := unhide HS0; omega))
      have R9 := hide r9
      have Z9 := hide (Nat.le_trans (unhide Z88) g9.size)
      have HL9 := hide (show ∀ y, (Value.slice a9 n9 c9).ownBlock = some y → y ≠ gs from fun y hy e => by
        subst e
        rcases hob with h | h
        · have := unhide HLOW y (h ▸ hy); omega
        · have := h y hy; have := (unhide XS8).1.1; omega)
      refine hK _ _ ?_
      clear hK K r9 g9 hob T9 RB8 XS8 XR8 D8 RD8 Z88 e0 e1 f0 f1
      obtain ⟨⟨e0, e1⟩, f0, f1⟩ := two33 (unhide XS9)
      try simp [Act.put]
      refine wpAny_take (i := 5) (v := .pointer (some ⟨gs, 0, none⟩)) rfl (by kernel_rfl) (by kernel_rfl) (by kernel_rfl) (fun _ _ _ h => h) (Or.inl ⟨by rfl, ?_⟩) ?_
      · intro w'
        go_simp
        try with_reducible rfl
      try simp [Act.put]
      refine wpAny_ready (rs := [6]) (by kernel_rfl) (by simp) ?_
      refine AllReady.cons rfl (fun K hK => ?_) (AllReady.nil)
      have hKK := hK
      clear hK
      go_simp
      refine hKK _ _ ?_
      clear hKK K
      try simp [Act.put]
      refine wpAny_done (by kernel_rfl) ?_ _
      have T10 : Turn [gs] w9 (w9.setCell ⟨gs, 0, none⟩ (.slice a9 n9 c9)) := (Turn.refl _ _).setCell (by simp) _ _
      have XS10 := hide ((unhide XS9).set 0 (.slice a9 n9 c9) (by simp))
      have XR10 := hide ((unhide XR9).turn T10 (by have := unhide HGS; simp; omega))
      have R10 := hide ((unhide R9).turn T10 (fun y hy => by have := unhide HL9 y hy; simpa using this))
      have D10 := hide ((unhide D9).turns T10 (by have := unhide HS0; have := unhide HGS; simp; omega))
      have Z10 := hide (Nat.le_trans (unhide Z9) T10.size)
      clear XS9 XR9 R9 D9 Z9 T10 e0 e1 f0 f1
      simp only [List.set] at XS10
      obtain ⟨⟨s0, s1⟩, -⟩ := two33 (unhide XS10)
      obtain ⟨⟨y0, y1⟩, z0, z1⟩ := two33 (unhide XR10)
      have HE := hide (fun (V : World) (t : Turn [w.heap.size] (w9.setCell ⟨gs, 0, none⟩ (.slice a9 n9 c9)) V) => show RetSp33 base g (N + 7000) w0 w (.returned (.agg #[.slice a9 n9 c9, .int .i64 lo])) V from
        ⟨_, _, _, _, (bf ++ rb), rfl, hide (((unhide R10).turn t (fun y hy => by have := (unhide R10).ge y hy; simp; omega)).mono (by omega)), hide (by have := unhide L8; omega), hide (((unhide D10).turns t (by have := unhide HS0; simp; omega)).more (by omega)), hide (Nat.le_trans (by have := unhide Z10; omega) t.size)⟩)
      clear XS10 XR10 R10 D10 Z10
      go_wp2_with fail
      refine bodyPost_ret (v := .agg #[.slice a9 n9 c9, .int .i64 lo]) (by simp [results, Try.results47, go_sem, y0, y1]) rfl ?_
      exact unhide HE _ (((Turn.refl [w.heap.size] (w9.setCell ⟨gs, 0, none⟩ (.slice a9 n9 c9))).setCell (g := w.heap.size) (by simp) _ _).setCell (g := w.heap.size) (by simp) _ _)
  by_cases h1 : z = 1
  · subst h1
    have A6 := hide ((Below.refl w6.heap.size w6).alloc (Nat.le_refl _) (.cells #[.int .i64 (-1), .int .i64 9223372036854775807, .int .i64 9223372036854775000] 3))
    have CI := hide (show (w6.alloc (.cells #[.int .i64 (-1), .int .i64 9223372036854775807, .int .i64 9223372036854775000] 3)).cell? ⟨w6.heap.size, 0, none⟩ = some (.int .i64 (-1)) ∧ (w6.alloc (.cells #[.int .i64 (-1), .int .i64 9223372036854775807, .int .i64 9223372036854775000] 3)).cell? ⟨w6.heap.size, 1, none⟩ = some (.int .i64 9223372036854775807) ∧ (w6.alloc (.cells #[.int .i64 (-1), .int .i64 9223372036854775807, .int .i64 9223372036854775000] 3)).cell? ⟨w6.heap.size, 2, none⟩ = some (.int .i64 9223372036854775000) from ⟨World.cell?_alloc_at _ _ _ _ rfl, World.cell?_alloc_at _ _ _ _ rfl, World.cell?_alloc_at _ _ _ _ rfl⟩)
    have HZL := hide (show (w6.alloc (.cells #[.int .i64 (-1), .int .i64 9223372036854775807, .int .i64 9223372036854775000] 3)).heap.size = w6.heap.size + 1 by simp)
    have D6A := hide ((unhide D6).up (unhide A6))
    have XS6A := hide ((unhide XS6).up (unhide A6))
    have XR6A := hide ((unhide XR6).up (unhide A6))
    have RB6A := hide ((unhide RB6).up (unhide A6))
    have HG6 := hide (show gs < w6.heap.size from (unhide XS6).1.1)
    clear XS6 XR6 RB6 D6 A6
    go_wp2_with fail
    generalize w6.alloc (.cells #[.int .i64 (-1), .int .i64 9223372036854775807, .int .i64 9223372036854775000] 3) = W7 at *
    refine (pick_rdy base g _ 3 w0 W7 (by omega) (by omega) (by omega) (unhide D6A)).mono ?_
    rintro e w8 ⟨k, rfl, hk, D8, T8⟩
    have XS8 := hide ((unhide XS6A).turn (unhide T8) (by have := unhide HGL; have := unhide HGS; simp; omega))
    have XR8 := hide ((unhide XR6A).turn (unhide T8) (by have := unhide HGL; simp; omega))
    have RB8 := hide ((unhide RB6A).turn (unhide T8) (fun y hy => by have := (unhide RB6A).ge y hy; have := unhide HGL; simp; omega))
    have hq : ∀ j, w8.cell? ⟨w6.heap.size, j, none⟩ = W7.cell? ⟨w6.heap.size, j, none⟩ := fun j => (unhide T8).cell (by show w6.heap.size < _; have := unhide HZL; omega) (by have := unhide HGL; have := unhide Z6; simp; omega)
    obtain ⟨q0, q1, q2⟩ := unhide CI
    rw [← hq] at q0 q1 q2
    have Z8 := hide (show w.heap.size + 1 ≤ w8.heap.size by have := unhide HZL; have := (unhide T8).size; have := unhide Z6; omega)
    have HRL := hide (show ∀ y, (Value.slice ba bn bc).ownBlock = some y → y < gs from fun y hy => unhide HLOW y hy)
    obtain ⟨⟨e0, e1⟩, f0, f1⟩ := two33 (unhide XS8)
    clear hq CI XS6A XR6A RB6A D6A T8
    have hk3 : k = 0 ∨ k = 1 ∨ k = 2 := by omega
    rcases hk3 with rfl | rfl | rfl
    · have T9 : Turn [gs] w8 (w8.setCell ⟨gs, 1, none⟩ (.int .i64 (-1))) := (Turn.refl _ _).setCell (by simp) _ _
      have XS9 := hide ((unhide XS8).set 1 (.int .i64 (-1)) (by simp))
      have XR9 := hide ((unhide XR8).turn T9 (by have := unhide HGS; simp; omega))
      have RB9 := hide ((unhide RB8).turn T9 (fun y hy => by have := unhide HRL y hy; simp; omega))
      have D9 := hide ((unhide D8).turns T9 (by have := unhide HS0; have := unhide HGS; simp; omega))
      have Z9 := hide (Nat.le_trans (unhide Z8) T9.size)
      clear XS8 XR8 RB8 D8 T9 Z8
      simp only [List.set] at XS9
      obtain ⟨⟨s0, s1⟩, -⟩ := two33 (unhide XS9)
      obtain ⟨⟨y0, y1⟩, z0, z1⟩ := two33 (unhide XR9)
      have HE := hide (fun (V : World) (t : Turn [w.heap.size] (w8.setCell ⟨gs, 1, none⟩ (.int .i64 (-1))) V) => show RetSp33 base g (N + 7000) w0 w (.returned (.agg #[.slice ba bn bc, .int .i64 (-1)])) V from
        ⟨_, _, _, _, bf, rfl, hide (((unhide RB9).turn t (fun y hy => by have := (unhide RB9).ge y hy; simp; omega)).mono (by omega)), hide (by have := unhide LB; omega), hide (((unhide D9).turns t (by have := unhide HS0; simp; omega)).more (by omega)), hide (Nat.le_trans (by have := unhide Z9; omega) t.size)⟩)
      clear XS9 XR9 RB9 D9 Z9
      go_wp2_with fail
      refine bodyPost_ret (v := .agg #[.slice ba bn bc, .int .i64 (-1)]) (by simp [results, Try.results47, go_sem, y0, y1]) rfl ?_
      exact unhide HE _ (((Turn.refl [w.heap.size] (w8.setCell ⟨gs, 1, none⟩ (.int .i64 (-1)))).setCell (g := w.heap.size) (by simp) _ _).setCell (g := w.heap.size) (by simp) _ _)
    · have T9 : Turn [gs] w8 (w8.setCell ⟨gs, 1, none⟩ (.int .i64 9223372036854775807)) := (Turn.refl _ _).setCell (by simp) _ _
      have XS9 := hide ((unhide XS8).set 1 (.int .i64 9223372036854775807) (by simp))
      have XR9 := hide ((unhide XR8).turn T9 (by have := unhide HGS; simp; omega))
      have RB9 := hide ((unhide RB8).turn T9 (fun y hy => by have := unhide HRL y hy; simp; omega))
      have D9 := hide ((unhide D8).turns T9 (by have := unhide HS0; have := unhide HGS; simp; omega))
      have Z9 := hide (Nat.le_trans (unhide Z8) T9.size)
      clear XS8 XR8 RB8 D8 T9 Z8
      simp only [List.set] at XS9
      obtain ⟨⟨s0, s1⟩, -⟩ := two33 (unhide XS9)
      obtain ⟨⟨y0, y1⟩, z0, z1⟩ := two33 (unhide XR9)
      have HE := hide (fun (V : World) (t : Turn [w.heap.size] (w8.setCell ⟨gs, 1, none⟩ (.int .i64 9223372036854775807)) V) => show RetSp33 base g (N + 7000) w0 w (.returned (.agg #[.slice ba bn bc, .int .i64 9223372036854775807])) V from
        ⟨_, _, _, _, bf, rfl, hide (((unhide RB9).turn t (fun y hy => by have := (unhide RB9).ge y hy; simp; omega)).mono (by omega)), hide (by have := unhide LB; omega), hide (((unhide D9).turns t (by have := unhide HS0; simp; omega)).more (by omega)), hide (Nat.le_trans (by have := unhide Z9; omega) t.size)⟩)
      clear XS9 XR9 RB9 D9 Z9
      go_wp2_with fail
      refine bodyPost_ret (v := .agg #[.slice ba bn bc, .int .i64 9223372036854775807]) (by simp [results, Try.results47, go_sem, y0, y1]) rfl ?_
      exact unhide HE _ (((Turn.refl [w.heap.size] (w8.setCell ⟨gs, 1, none⟩ (.int .i64 9223372036854775807))).setCell (g := w.heap.size) (by simp) _ _).setCell (g := w.heap.size) (by simp) _ _)
    · have T9 : Turn [gs] w8 (w8.setCell ⟨gs, 1, none⟩ (.int .i64 9223372036854775000)) := (Turn.refl _ _).setCell (by simp) _ _
      have XS9 := hide ((unhide XS8).set 1 (.int .i64 9223372036854775000) (by simp))
      have XR9 := hide ((unhide XR8).turn T9 (by have := unhide HGS; simp; omega))
      have RB9 := hide ((unhide RB8).turn T9 (fun y hy => by have := unhide HRL y hy; simp; omega))
      have D9 := hide ((unhide D8).turns T9 (by have := unhide HS0; have := unhide HGS; simp; omega))
      have Z9 := hide (Nat.le_trans (unhide Z8) T9.size)
      clear XS8 XR8 RB8 D8 T9 Z8
      simp only [List.set] at XS9
      obtain ⟨⟨s0, s1⟩, -⟩ := two33 (unhide XS9)
      obtain ⟨⟨y0, y1⟩, z0, z1⟩ := two33 (unhide XR9)
      have HE := hide (fun (V : World) (t : Turn [w.heap.size] (w8.setCell ⟨gs, 1, none⟩ (.int .i64 9223372036854775000)) V) => show RetSp33 base g (N + 7000) w0 w (.returned (.agg #[.slice ba bn bc, .int .i64 9223372036854775000])) V from
        ⟨_, _, _, _, bf, rfl, hide (((unhide RB9).turn t (fun y hy => by have := (unhide RB9).ge y hy; simp; omega)).mono (by omega)), hide (by have := unhide LB; omega), hide (((unhide D9).turns t (by have := unhide HS0; simp; omega)).more (by omega)), hide (Nat.le_trans (by have := unhide Z9; omega) t.size)⟩)
      clear XS9 XR9 RB9 D9 Z9
      go_wp2_with fail
      refine bodyPost_ret (v := .agg #[.slice ba bn bc, .int .i64 9223372036854775000]) (by simp [results, Try.results47, go_sem, y0, y1]) rfl ?_
      exact unhide HE _ (((Turn.refl [w.heap.size] (w8.setCell ⟨gs, 1, none⟩ (.int .i64 9223372036854775000))).setCell (g := w.heap.size) (by simp) _ _).setCell (g := w.heap.size) (by simp) _ _)
  by_cases h2 : z = 2
  · subst h2
    have HRW := hide (l33Raw_any base g _ 5 w6 w6 (by omega) (by omega) (unhide D6).self)
    go_wp2_with fail
    refine (unhide HRW).mono ?_
    rintro e w7 ⟨a7, c7, rb, rfl, R7, hrl, D77, Z7⟩
    have XS7 := hide (((unhide XS6).turn (unhide D77).turn (by have := unhide HGL; have := unhide HGS; simp; omega)).set 0 (.slice a7 5 c7) (by simp))
    have T7 : Turn [gs] w7 (w7.setCell ⟨gs, 0, none⟩ (.slice a7 5 c7)) := (Turn.refl _ _).setCell (by simp) _ _
    have XR7 := hide (((unhide XR6).turn (unhide D77).turn (by have := unhide HGL; simp; omega)).turn T7 (by have := unhide HGS; simp; omega))
    have R77 := hide ((((unhide R7).turn T7 (fun y hy => by have := (unhide R7).ge y hy; have := (unhide XS6).1.1; simp; omega))).mono (show w.heap.size + 1 ≤ w6.heap.size from unhide Z6))
    have D7 := hide (((unhide D6).on (unhide D77)).turns T7 (by have := unhide HS0; have := unhide HGS; simp; omega))
    have L7 := hide (show rb.length ≤ 1500 by omega)
    have Z77 := hide (Nat.le_trans (Nat.le_trans (unhide Z6) (unhide Z7)) T7.size)
    have f0 := ((unhide XS6).turn (unhide D77).turn (by have := unhide HGL; have := unhide HGS; simp; omega)).2 0 (by simp)
    have e0 := (two33 ((unhide XS6).turn (unhide D77).turn (by have := unhide HGL; have := unhide HGS; simp; omega))).1.1
    clear XS6 XR6 RB6 D6 R7 D77 Z7 HRW Z6 T7
    simp only [List.set] at XS7
    obtain ⟨⟨s0, s1⟩, -⟩ := two33 (unhide XS7)
    obtain ⟨⟨y0, y1⟩, z0, z1⟩ := two33 (unhide XR7)
    have HE := hide (fun (V : World) (t : Turn [w.heap.size] (w7.setCell ⟨gs, 0, none⟩ (.slice a7 5 c7)) V) => show RetSp33 base g (N + 7000) w0 w (.returned (.agg #[.slice a7 5 c7, .int .i64 lo])) V from
      ⟨_, _, _, _, rb, rfl, hide (((unhide R77).turn t (fun y hy => by have := (unhide R77).ge y hy; simp; omega)).mono (by omega)), hide (by have := unhide L7; omega), hide (((unhide D7).turns t (by have := unhide HS0; simp; omega)).more (by omega)), hide (Nat.le_trans (by have := unhide Z77; omega) t.size)⟩)
    clear XS7 XR7 R77 D7 Z77
    go_wp2_with fail
    refine bodyPost_ret (v := .agg #[.slice a7 5 c7, .int .i64 lo]) (by simp [results, Try.results47, go_sem, y0, y1]) rfl ?_
    exact unhide HE _ (((Turn.refl [w.heap.size] (w7.setCell ⟨gs, 0, none⟩ (.slice a7 5 c7))).setCell (g := w.heap.size) (by simp) _ _).setCell (g := w.heap.size) (by simp) _ _)
  by_cases h3 : z = 3
  · subst h3
    have RL := hide (byLitM3 w6 w6.heap.size (Nat.le_refl _))
    have A6 := hide ((Below.refl w6.heap.size w6).alloc (Nat.le_refl _) (.cells #[.int .u8 245, .int .u8 1, .int .u8 4] 5))
    have HRW := hide (l33Raw_any base g _ 261 _ _ (by omega) (by omega) ((unhide D6).up (unhide A6)).self)
    have HZL := hide (show (w6.alloc (.cells #[.int .u8 245, .int .u8 1, .int .u8 4] 5)).heap.size = w6.heap.size + 1 by simp)
    have D6A := hide ((unhide D6).up (unhide A6))
    have XS6A := hide ((unhide XS6).up (unhide A6))
    have XR6A := hide ((unhide XR6).up (unhide A6))
    have HG6 := hide (show gs < w6.heap.size from (unhide XS6).1.1)
    clear XS6 XR6 RB6 D6 A6
    go_wp2_with fail
    generalize w6.alloc (.cells #[.int .u8 245, .int .u8 1, .int .u8 4] 5) = W7 at *
    refine (unhide HRW).mono ?_
    rintro e w8 ⟨a8, c8, rb, rfl, R8, hrl, D88, Z8⟩
    have RL8 := hide ((unhide RL).turn (unhide D88).turn (fun y hy => by have := (unhide RL).ge y hy; have := unhide HGL; have := unhide Z6; simp; omega))
    have XS8 := hide ((unhide XS6A).turn (unhide D88).turn (by have := unhide HGL; have := unhide HGS; simp; omega))
    have XR8 := hide ((unhide XR6A).turn (unhide D88).turn (by have := unhide HGL; simp; omega))
    have D8 := hide ((unhide D6A).on (unhide D88))
    have RD8 := hide (unhide R8).rd
    have Z88 := hide (show w6.heap.size ≤ w8.heap.size by have := unhide HZL; have := unhide Z8; omega)
    have HLS := hide (show ([245, 1, 4] : List UInt8).length + rb.length ≤ 140737488355328 by simp; omega)
    have L8 := hide (show (([245, 1, 4] : List UInt8) ++ rb).length ≤ 1500 by simp; omega)
    clear RL D88 XS6A XR6A D6A R8 HRW Z8
    go_wp2_with (first
      | (at_builtin; refine wpList_byAppend rfl _ _ rfl w6.heap.size (.slice (some ⟨w6.heap.size, 0, none⟩) 3 3) (.slice a8 261 c8) [245, 1, 4] rb rfl rfl (unhide RL8) (unhide RD8) (unhide HLS) (unhide Z88) ?_; intro a9 c9 w9 r9 g9 _; obtain ⟨n9, HN9⟩ : ∃ n9, Hid (([245, 1, 4] : List UInt8).length + rb.length = n9) := ⟨_, hide rfl⟩; rw [unhide HN9] at r9; rw [unhide HN9]; have T9 := hide (show Turn [w6.heap.size] w8 w9 from Turn.of_grown g9 (by simp [Value.ownBlock])); have XS9 := hide ((unhide XS8).turn (unhide T9) (by have := unhide HG6; simp; omega)); obtain ⟨⟨e0, e1⟩, f0, f1⟩ := two33 (unhide XS9); have R9 := hide r9; have T10 := hide (show Turn [gs] w9 (w9.setCell ⟨gs, 0, none⟩ (.slice a9 n9 c9)) from (Turn.refl _ _).setCell (by simp) _ _); have XS10 := hide ((unhide XS9).set 0 (.slice a9 n9 c9) (by simp)); have XR10 := hide (((unhide XR8).turn (unhide T9) (by have := unhide Z6; simp; omega)).turn (unhide T10) (by have := unhide HGS; simp; omega)); simp only [List.set] at XS10; obtain ⟨⟨s0, s1⟩, -⟩ := two33 (unhide XS10); obtain ⟨⟨y0, y1⟩, z0, z1⟩ := two33 (unhide XR10); clear r9 g9)
      | fail)
    have R10 := hide (((unhide R9).turn (unhide T10) (fun y hy => by have := (unhide R9).ge y hy; have := unhide HG6; simp; omega)).mono (show w.heap.size + 1 ≤ w6.heap.size from unhide Z6))
    have D10 := hide (((unhide D8).turns (unhide T9) (by have := unhide HS0; have := unhide Z6; simp; omega)).turns (unhide T10) (by have := unhide HS0; have := unhide HGS; simp; omega))
    have Z10 := hide (Nat.le_trans (Nat.le_trans (Nat.le_trans (unhide Z6) (unhide Z88)) (unhide T9).size) (unhide T10).size)
    clear XS9 XS8 XR8 R9 D8 T9 T10
    have HE := hide (fun (V : World) (t : Turn [w.heap.size] (w9.setCell ⟨gs, 0, none⟩ (.slice a9 n9 c9)) V) => show RetSp33 base g (N + 7000) w0 w (.returned (.agg #[.slice a9 n9 c9, .int .i64 lo])) V from
      ⟨_, _, _, _, ([245, 1, 4] ++ rb), rfl, hide (((unhide R10).turn t (fun y hy => by have := (unhide R10).ge y hy; simp; omega)).mono (by omega)), hide (by have := unhide L8; omega), hide (((unhide D10).turns t (by have := unhide HS0; simp; omega)).more (by omega)), hide (Nat.le_trans (by have := unhide Z10; omega) t.size)⟩)
    clear XS10 XR10 R10 D10 Z10
    refine bodyPost_ret (v := .agg #[.slice a9 n9 c9, .int .i64 lo]) (by simp [results, Try.results47, go_sem, y0, y1]) rfl ?_
    exact unhide HE _ (((Turn.refl [w.heap.size] (w9.setCell ⟨gs, 0, none⟩ (.slice a9 n9 c9))).setCell (g := w.heap.size) (by simp) _ _).setCell (g := w.heap.size) (by simp) _ _)
  have k0 : ((z : Int) == 0) = false := by rw [beq_eq_false_iff_ne]; omega
  have k1 : ((z : Int) == 1) = false := by rw [beq_eq_false_iff_ne]; omega
  have k2 : ((z : Int) == 2) = false := by rw [beq_eq_false_iff_ne]; omega
  have k3 : ((z : Int) == 3) = false := by rw [beq_eq_false_iff_ne]; omega
  obtain ⟨⟨s0, s1⟩, -⟩ := two33 (unhide XS6)
  obtain ⟨⟨y0, y1⟩, z0, z1⟩ := two33 (unhide XR6)
  have HE := hide (fun (V : World) (t : Turn [w.heap.size] w6 V) => show RetSp33 base g (N + 7000) w0 w (.returned (.agg #[.slice ba bn bc, .int .i64 lo])) V from
    ⟨_, _, _, _, bf, rfl, hide (((unhide RB6).turn t (fun y hy => by have := (unhide RB6).ge y hy; simp; omega)).mono (by omega)), hide (by have := unhide LB; omega), hide (((unhide D6).turns t (by have := unhide HS0; simp; omega)).more (by omega)), hide (Nat.le_trans (by have := unhide Z6; omega) t.size)⟩)
  clear XS6 XR6 RB6 D6 Z6
  go_wp2_with fail
  refine bodyPost_ret (v := .agg #[.slice ba bn bc, .int .i64 lo]) (by simp [results, Try.results47, go_sem, y0, y1]) rfl ?_
  exact unhide HE _ (((Turn.refl [w.heap.size] w6).setCell (g := w.heap.size) (by simp) _ _).setCell (g := w.heap.size) (by simp) _ _)
end Go.Proofs.Ytlgmmibncoedgaa
