/-
  What the law on how two stamps stand draws.
-/
import Derived.Test.YtmgmmgjlagkdoaaDrawOnly
import Derived.Deep.RegionWith
set_option linter.unusedVariables false
namespace Go.Proofs.Ytmgmmgjlagkdoaa
open Go.RowKit Go.Maps Go.Deep

/-- two lists of marks are drawn, neither too long -/
def RetTwoS (w : World) (e : Ending) (w' : World) : Prop := ∃ v xs u ys, e = .returned (.tuple #[v, u]) ∧ Hid (MarkSRd w' v xs) ∧ Hid (SmallMarkS xs) ∧ Hid (MarkSRd w' u ys) ∧ Hid (SmallMarkS ys) ∧ Below w.heap.size w w'
def Near (x : MarkV) : Prop := x.a0.size ≤ 100 ∧ -1125899906842625 ≤ x.a1 ∧ x.a1 ≤ 1125899906842625
theorem near_small {ys : List MarkV} (hl : ys.length ≤ 40) (h : ∀ y ∈ ys, Near y) : SmallMarkS ys :=
  ⟨⟨by omega, fun x hx => by have := (h x hx).1; omega⟩, fun x hx => by have := h x hx; unfold Near at this; exact ⟨by unfold maxLen; omega, by omega⟩⟩
theorem turn_drew0 (X : World) : Turn [] X X.drew := ⟨rfl, rfl, rfl, Nat.le_refl _, fun _ _ _ => rfl⟩
theorem turn_drew1 (g : Nat) (X : World) : Turn [g] X X.drew := ⟨rfl, rfl, rfl, Nat.le_refl _, fun _ _ _ => rfl⟩
/-- the rows of the marks that are turned one by one -/
structure MidO (base g p gb c : Nat) (w : World) (xs : List MarkV) (k : Nat) (wr : World) : Prop where
  row : ∃ ys, MkHi w.heap.size wr (.slice (some ⟨gb, 0, none⟩) xs.length c) ys ∧ ys.length = xs.length ∧ (∀ j (h : j < ys.length) (h' : j < xs.length), k ≤ j → ys[j] = xs[j]) ∧ ∀ y ∈ ys, Near y
  rd : ∃ r, r ≤ p + k ∧ RdIn base wr g r
  turn : Turn [g] w wr
theorem MidO.at {base g p gb c : Nat} {w : World} {xs : List MarkV} {k : Nat} {wr : World} (h : MidO base g p gb c w xs k wr) (hk : k < xs.length) :
    ∃ ys, ys.length = xs.length ∧ (∀ j (h : j < ys.length) (h' : j < xs.length), k ≤ j → ys[j] = xs[j]) ∧ (∀ y ∈ ys, Near y) ∧ w.heap.size ≤ gb ∧ gb < wr.heap.size ∧ MarkAt wr gb 0 ys ∧ ∀ i, i < ys.length * 2 → wr.frozen? ⟨gb, 0 + i, none⟩ = false := by
  obtain ⟨ys, ⟨S, h1, h2⟩, h3, h4, h5⟩ := h.row
  rcases h1 with ⟨_, e, _⟩ | ⟨b, off, cap, hS, e, hb, hx, hf⟩
  · subst e; simp at h3; omega
  · simp only [Value.slice.injEq, Option.some.injEq, Addr.mk.injEq, and_true] at e
    obtain ⟨⟨rfl, rfl⟩, _, rfl⟩ := e
    exact ⟨ys, h3, h4, h5, h2 gb (by rw [hS]; simp), hb, hx, hf⟩

set_option maxRecDepth 20000 in
set_option maxHeartbeats 6400000 in
theorem drawOrder_any (w : World) (a : Option Addr) (cap : Nat) (bs : List UInt8) (hl : bs.length ≤ maxLen) (hc : bs.length ≤ cap) (hb : ByIn w a bs) :
    Calls Try.prog 18 #[.slice a bs.length cap] w fun e w' => RetTwoS w e w' := by
  have HO := hide (l1Open_any w a bs.length cap hl hc (bytesIn_of hb))
  clear hb hl hc
  go_enter Try.func18, Try.ntmps18
  go_wp2_with fail
  refine (unhide HO).mono ?_
  rintro e w1 ⟨g, rfl, hr1, ht1⟩
  have R1 := hide hr1
  have B1 := hide (show Below w.heap.size w w1 from ht1.below (Nat.le_refl _) (by simp))
  have hgl := hr1.lt
  have hga := hr1.above
  clear hr1 ht1 HO
  go_wp2_with fail
  refine (l34Marks_any w.heap.size g 0 w1 (by omega) (unhide R1)).mono ?_
  rintro e w2 ⟨v, xs, rfl, HV, HS, HR, HT⟩
  obtain ⟨va, vc, rfl⟩ := (unhide HV).rd.len
  obtain ⟨q2, hq2, hr2⟩ := unhide HR
  have R2 := hide hr2
  have B2 := hide (show Below w.heap.size w w2 from (unhide B1).trans ((unhide HT).below (unhide B1).size (by simpa using hga)))
  have hgl2 : g < w2.heap.size := hr2.lt
  have hlen := (unhide HS).1
  have SX := hide ((unhide HS).small (by omega))
  obtain ⟨len, HL⟩ : ∃ len, Hid (xs.length = len) := ⟨_, rfl⟩
  rw [unhide HL] at HV hlen ⊢
  clear R1 HR hr2 HT B1
  go_wp2_with fail
  refine (pick_any w2 w.heap.size g q2 3 (by omega) (by omega) (by omega) (unhide R2)).mono ?_
  rintro e w3 ⟨z, rfl, z0, z1, hr3, ht3⟩
  have R3 := hide hr3
  have V3 := hide ((unhide HV).turn ht3 hgl)
  have B3 := hide ((unhide B2).trans (ht3.below (unhide B2).size (by simpa using hga)))
  have hgl3 : g < w3.heap.size := hr3.lt
  clear hr3 ht3 R2 HV B2
  by_cases hz : 0 < z
  · have bz := (Below.refl w3.heap.size w3).alloc (Nat.le_refl _) (.cells #[] 45)
    have RW := hide (mkLit0 w3 w3.heap.size (Nat.le_refl _))
    have V4 := hide ((unhide V3).up bz)
    have R4 := hide (RdIn.turn (S := []) (unhide R3) (Turn.of_below bz) (by simp) (by simp))
    have T4 := hide (show Turn [g] w3 _ from Turn.of_below bz)
    have hz4 : w3.heap.size < (w3.alloc (.cells #[] 45)).heap.size := by simp
    clear bz
    -- behind the rounds
    have HEND := hide (show ∀ (W : World) (u : Value) (ys : List MarkV), Turn [g] w3 W → MarkSRd W u ys → SmallMarkS ys → RetTwoS w (.returned (.tuple #[.slice va len vc, u])) W from fun W u ys h1 h2 h3 => ⟨_, xs, _, ys, rfl, hide ((unhide V3).turn h1 hgl).rd, SX, hide h2, hide h3, (unhide B3).trans (h1.below (unhide B3).size (by simpa using hga))⟩)
    by_cases h0 : xs = []
    · have hl0 : len = 0 := by rw [← unhide HL, h0]; rfl
      subst hl0
      go_wp2_with (first
        | (at_builtin; refine wpList_mksAppend0 rfl _ _ rfl w3.heap.size va vc rfl rfl ?_)
        | fail)
      refine wp_loop_rounds 1 ?_
      rw [rounds_succ]
      go_wp2_with fail
      go_ret2
      exact unhide HEND _ _ [] (unhide T4) ⟨_, 0, rfl, .inl rfl⟩ (near_small (by simp) (by simp))
    · have HX0 := hide h0
      have hlp : 0 < len := by rw [← unhide HL]; exact List.length_pos_iff.2 h0
      clear h0
      go_wp2_with (first
        | (at_builtin; refine wpList_mksAppend rfl _ _ rfl w3.heap.size (.slice (some ⟨w3.heap.size, 0, none⟩) 0 0) (.slice va len vc) [] xs rfl rfl (unhide RW) (unhide V4).rd (unhide HX0) (by simp; have := unhide HL; omega) (by simp) ?_; intro gb n5 c5 w5 hn5 r5 g5 _; rw [List.length_nil, Nat.zero_add, unhide HL] at hn5; have hn6 := hn5.symm; subst hn6
           have M5 := hide (show MidO w.heap.size g (q2 + 1) gb c5 w3 xs 0 w5 from ⟨⟨xs, by have := r5.hi; rw [List.nil_append, ← unhide HL] at this; exact this, rfl, fun _ _ _ _ => rfl, fun y hy => by have := (unhide HS).2 y hy; unfold VFit at this; unfold Near; omega⟩, ⟨_, Nat.le_refl _, RdIn.turn (unhide R4) (Turn.of_grown (S := [w3.heap.size]) g5 (fun k hk => .inl (by simp [Value.ownBlock] at hk; simp [hk]))) (by simp; omega) (by simp; omega)⟩, turn_join (unhide T4) (Turn.of_grown (S := [g, w3.heap.size]) g5 (fun k hk => .inl (by simp [Value.ownBlock] at hk; simp [hk]))) (Nat.le_refl _)⟩)
           clear r5 g5)
        | fail)
      go_loopw [7] (fun i wr => ∃ k : Nat, k ≤ len ∧ i = .int .i64 k ∧ Hid (MidO w.heap.size g (q2 + 1) gb c5 w3 xs k wr)) (fun i _ => len - (intOf i).toNat)
      case atStart => exact ⟨0, Nat.zero_le _, rfl, M5⟩
      case round =>
        obtain ⟨k, hk, rfl, HM⟩ := hrel
        by_cases hlt : k < len
        · have hkx : k < xs.length := by rw [unhide HL]; exact hlt
          obtain ⟨ys, hy1, hy2, hy3, hgb, hgb2, hat, hfz⟩ := (unhide HM).at hkx
          obtain ⟨r, hrq, hrr⟩ := (unhide HM).rd
          have hT := hide (unhide HM).turn
          have hky : k < ys.length := by rw [hy1]; exact hkx
          obtain ⟨c0, c1⟩ := hat k hky
          have hv := (unhide HS).2 _ (List.getElem_mem hkx)
          rw [hy2 k hky hkx (Nat.le_refl _)] at c0 c1
          have f0 := hfz (k * 2) (by omega)
          have f1 := hfz (k * 2 + 1) (by omega)
          simp only [Nat.zero_add] at c0 c1 f0 f1
          have HY1 := hide hy1
          have HY2 := hide hy2
          have HY3 := hide hy3
          have HAT := hide hat
          have HFZ := hide hfz
          have HRR := hide hrr
          have HRQ := hide hrq
          have HKY := hide hky
          generalize xs[k] = m at *
          obtain ⟨hm1, hm2⟩ := hv
          unfold VFit at hm2
          have bm := (Below.refl wr.heap.size wr).alloc (Nat.le_refl _) (.cells #[.string m.a0, .int .i64 m.a1] 45)
          have BX := hide (boxF_new wr [.string m.a0, .int .i64 m.a1] 45)
          have R6 := hide (RdIn.turn (S := []) (unhide HRR) (Turn.of_below bm) (by simp) (by simp))
          have T6 := hide ((unhide hT).trans (Turn.of_below bm))
          have AT6 := hide ((unhide HAT).below bm hgb2)
          have FZ6 := hide (fun i hi => (bm.frozen (p := ⟨gb, 0 + i, none⟩) hgb2).trans (unhide HFZ i hi))
          have hwr : w3.heap.size ≤ wr.heap.size := (unhide hT).size
          have hgr := (unhide HRR).lt
          have z6 : wr.heap.size < (wr.alloc (.cells #[.string m.a0, .int .i64 m.a1] 45)).heap.size := by simp
          have d2 : (k : Int) < (len : Int) := by omega
          clear bm hy1 hy2 hy3 hat hfz hrr hrq hky HM HRR hT HAT HFZ
          go_wp2_with fail
          generalize wr.alloc (.cells #[.string m.a0, .int .i64 m.a1] 45) = W6 at *
          generalize wr.heap.size = gm at *
          have RD6 := hide (RdIn.turn (S := []) (unhide R6) (turn_drew0 W6) (by simp) (by simp))
          obtain ⟨p0, p1⟩ := (unhide BX).1.two
          have e1 : W6.drew.cell? ⟨gm, 1, none⟩ = some (.int .i64 m.a1) := p1
          clear c0 c1 f0 f1 p0 p1
          refine wp_region_any (by kernel_rfl) ?_
          change wpAny _ _ _ _ _ _ _ (World.drew _)
          refine wpAny_take (i := 0) (v := .pointer (some ⟨gm, 1, none⟩)) rfl (by kernel_rfl) (by kernel_rfl) (by kernel_rfl) (fun _ _ _ h => h) (Or.inl ⟨by rfl, ?_⟩) ?_
          · intro w'
            go_simp
            try with_reducible rfl
          try simp [Act.put]
          refine wpAny_take (i := 2) (v := .pointer (some ⟨g, 0, none⟩)) rfl (by kernel_rfl) (by kernel_rfl) (by kernel_rfl) (fun _ _ _ h => h) (Or.inl ⟨by rfl, ?_⟩) ?_
          · intro w'
            go_simp
            try with_reducible rfl
          try simp [Act.put]
          refine wpAny_ready (rs := [1, 3]) (by kernel_rfl) (by simp) ?_
          refine AllReady.cons rfl (fun K hK => ?_) (AllReady.cons rfl (fun K hK => ?_) AllReady.nil)
          · skip
            have hKK := hK
            clear hK
            go_simp
            refine hKK _ _ ?_
            clear hKK K
            try simp [Act.put]
            refine wpAny_ready (rs := [3]) (by kernel_rfl) (by simp) ?_
            refine AllReady.cons rfl (fun K hK => ?_) AllReady.nil
            have hKK := hK
            clear hK
            go_simp
            refine (pick_any W6.drew w.heap.size g r 2 (by omega) (by omega) (by have := unhide HRQ; omega) (unhide RD6)).mono ?_
            rintro e w7 ⟨y, rfl, yl, yh, hr7, ht7⟩
            have R7 := hide hr7
            have T7 := hide (((unhide T6).trans (turn_drew1 g W6)).trans ht7)
            have TT7 := hide ((turn_drew1 g W6).trans ht7)
            have BX7 := hide ((unhide BX).turn (unhide TT7) (by simp; omega))
            have AT7 := hide (MarkAt.turn (unhide AT6) (unhide TT7) (by omega) (by simp; omega))
            have FZ7 := hide (fun i hi => ((unhide TT7).frozen (g := gb) (i := 0 + i) (by omega) (by simp; omega)).trans (unhide FZ6 i hi))
            have z7 := (unhide TT7).size
            clear hr7 ht7
            refine hKK _ _ ?_
            clear hKK K
            try simp [Act.put]
            obtain ⟨q0, q1⟩ := (unhide BX7).1.two
            have fq1 := (unhide BX7).2 1 (by simp)
            refine wpAny_ready (rs := [4]) (by kernel_rfl) (by simp) ?_
            refine AllReady.cons rfl (fun K hK => ?_) AllReady.nil
            have hKK := hK
            clear hK
            go_simp
            refine hKK _ _ ?_
            clear hKK K
            try simp [Act.put]
            refine wpAny_ready (rs := [5]) (by kernel_rfl) (by simp) ?_
            refine AllReady.cons rfl (fun K hK => ?_) AllReady.nil
            have hKK := hK
            clear hK
            go_simp
            refine hKK _ _ ?_
            clear hKK K
            try simp [Act.put]
            refine wpAny_ready (rs := [6]) (by kernel_rfl) (by simp) ?_
            refine AllReady.cons rfl (fun K hK => ?_) AllReady.nil
            have hKK := hK
            clear hK
            go_simp
            refine hKK _ _ ?_
            clear hKK K
            try simp [Act.put]
            refine wpAny_done (by kernel_rfl) ?_ _
            have tX := (Turn.refl [gm] w7).setCell (g := gm) (by simp) 1 (.int .i64 (m.a1 + y))
            have BX8 := hide (show BoxF (w7.setCell ⟨gm, 1, none⟩ (.int .i64 (m.a1 + y))) gm [.string m.a0, .int .i64 (m.a1 + y)] from (unhide BX7).set 1 (.int .i64 (m.a1 + y)) (by simp))
            have AT8 := hide (MarkAt.turn (unhide AT7) tX (by omega) (by simp; omega))
            have FZ8 := hide (fun i hi => (tX.frozen (g := gb) (i := 0 + i) (by omega) (by simp; omega)).trans (unhide FZ7 i hi))
            have R8 := hide (RdIn.turn (unhide R7) tX (by simp; omega) (by simp; omega))
            have T8 := hide (set_new (unhide T7) hwr 1 (.int .i64 (m.a1 + y)))
            have z8 : gb < (w7.setCell ⟨gm, 1, none⟩ (.int .i64 (m.a1 + y))).heap.size := by simp; omega
            clear q0 q1 fq1 tX BX7 AT7 FZ7 R7 T7 TT7
            obtain ⟨X8, hX8⟩ : ∃ X, w7.setCell ⟨gm, 1, none⟩ (.int .i64 (m.a1 + y)) = X := ⟨_, rfl⟩
            have hwp : IntKind.i64.wrap (m.a1 + y) = m.a1 + y := by
              rw [IntKind.wrap_i64]
              omega
            rw [hwp]
            clear hwp
            rw [hX8] at BX8 AT8 FZ8 R8 T8 z8
            rw [hX8]
            clear hX8
            obtain ⟨q0, q1⟩ := (unhide BX8).1.two
            obtain ⟨s0, s1⟩ := unhide AT8 k (unhide HKY)
            have t0 := unhide FZ8 (k * 2) (by have := unhide HKY; omega)
            have t1 := unhide FZ8 (k * 2 + 1) (by have := unhide HKY; omega)
            simp only [Nat.zero_add] at s0 s1 t0 t1
            have HM2 := hide (show MidO w.heap.size g (q2 + 1) gb c5 w3 xs (k + 1) ((X8.setCell ⟨gb, k * 2, none⟩ (.string m.a0)).setCell ⟨gb, k * 2 + 1, none⟩ (.int .i64 (m.a1 + y))) from by
              have hh := mkHi_set (c := c5) hgb z8 (unhide AT8) (unhide FZ8) k (unhide HKY) ⟨m.a0, m.a1 + y⟩
              simp only [Nat.zero_add] at hh
              have t2 := ((Turn.refl [gb] X8).setCell (g := gb) (by simp) (k * 2) (.string m.a0)).setCell (g := gb) (by simp) (k * 2 + 1) (.int .i64 (m.a1 + y))
              refine ⟨⟨ys.set k ⟨m.a0, m.a1 + y⟩, by rw [unhide HY1] at hh; exact hh, by simp [unhide HY1], fun j h h' hj => ?_, fun x hx => ?_⟩, ⟨r + 1, by have := unhide HRQ; omega, RdIn.turn (unhide R8) t2 (by simp; omega) (by simp; omega)⟩, turn_join (unhide T8) (t2.mono (fun k hk => .inl (by simp at hk; simp [hk]))) hgb⟩
              · rw [List.getElem_set_ne (by omega)]
                exact unhide HY2 j (by simpa using h) h' (by omega)
              · rcases List.mem_or_eq_of_mem_set hx with hx | rfl
                · exact unhide HY3 x hx
                · unfold Near; dsimp only; omega)
            generalize ys[k].a0 = o0 at *
            generalize ys[k].a1 = o1 at *
            clear BX8 AT8 FZ8 R8 T8
            go_wp2_with fail
            go_roundw
            case rel => exact ⟨k + 1, by omega, by go_num, HM2⟩
            case measure => simp [intOf]; omega
          · skip
            have hKK := hK
            clear hK
            go_simp
            refine (pick_any W6.drew w.heap.size g r 2 (by omega) (by omega) (by have := unhide HRQ; omega) (unhide RD6)).mono ?_
            rintro e w7 ⟨y, rfl, yl, yh, hr7, ht7⟩
            have R7 := hide hr7
            have T7 := hide (((unhide T6).trans (turn_drew1 g W6)).trans ht7)
            have TT7 := hide ((turn_drew1 g W6).trans ht7)
            have BX7 := hide ((unhide BX).turn (unhide TT7) (by simp; omega))
            have AT7 := hide (MarkAt.turn (unhide AT6) (unhide TT7) (by omega) (by simp; omega))
            have FZ7 := hide (fun i hi => ((unhide TT7).frozen (g := gb) (i := 0 + i) (by omega) (by simp; omega)).trans (unhide FZ6 i hi))
            have z7 := (unhide TT7).size
            clear hr7 ht7
            refine hKK _ _ ?_
            clear hKK K
            try simp [Act.put]
            obtain ⟨q0, q1⟩ := (unhide BX7).1.two
            have fq1 := (unhide BX7).2 1 (by simp)
            refine wpAny_ready (rs := [1]) (by kernel_rfl) (by simp) ?_
            refine AllReady.cons rfl (fun K hK => ?_) AllReady.nil
            have hKK := hK
            clear hK
            go_simp
            refine hKK _ _ ?_
            clear hKK K
            try simp [Act.put]
            refine wpAny_ready (rs := [4]) (by kernel_rfl) (by simp) ?_
            refine AllReady.cons rfl (fun K hK => ?_) AllReady.nil
            have hKK := hK
            clear hK
            go_simp
            refine hKK _ _ ?_
            clear hKK K
            try simp [Act.put]
            refine wpAny_ready (rs := [5]) (by kernel_rfl) (by simp) ?_
            refine AllReady.cons rfl (fun K hK => ?_) AllReady.nil
            have hKK := hK
            clear hK
            go_simp
            refine hKK _ _ ?_
            clear hKK K
            try simp [Act.put]
            refine wpAny_ready (rs := [6]) (by kernel_rfl) (by simp) ?_
            refine AllReady.cons rfl (fun K hK => ?_) AllReady.nil
            have hKK := hK
            clear hK
            go_simp
            refine hKK _ _ ?_
            clear hKK K
            try simp [Act.put]
            refine wpAny_done (by kernel_rfl) ?_ _
            have tX := (Turn.refl [gm] w7).setCell (g := gm) (by simp) 1 (.int .i64 (m.a1 + y))
            have BX8 := hide (show BoxF (w7.setCell ⟨gm, 1, none⟩ (.int .i64 (m.a1 + y))) gm [.string m.a0, .int .i64 (m.a1 + y)] from (unhide BX7).set 1 (.int .i64 (m.a1 + y)) (by simp))
            have AT8 := hide (MarkAt.turn (unhide AT7) tX (by omega) (by simp; omega))
            have FZ8 := hide (fun i hi => (tX.frozen (g := gb) (i := 0 + i) (by omega) (by simp; omega)).trans (unhide FZ7 i hi))
            have R8 := hide (RdIn.turn (unhide R7) tX (by simp; omega) (by simp; omega))
            have T8 := hide (set_new (unhide T7) hwr 1 (.int .i64 (m.a1 + y)))
            have z8 : gb < (w7.setCell ⟨gm, 1, none⟩ (.int .i64 (m.a1 + y))).heap.size := by simp; omega
            clear q0 q1 fq1 tX BX7 AT7 FZ7 R7 T7 TT7
            obtain ⟨X8, hX8⟩ : ∃ X, w7.setCell ⟨gm, 1, none⟩ (.int .i64 (m.a1 + y)) = X := ⟨_, rfl⟩
            have hwp : IntKind.i64.wrap (m.a1 + y) = m.a1 + y := by
              rw [IntKind.wrap_i64]
              omega
            rw [hwp]
            clear hwp
            rw [hX8] at BX8 AT8 FZ8 R8 T8 z8
            rw [hX8]
            clear hX8
            obtain ⟨q0, q1⟩ := (unhide BX8).1.two
            obtain ⟨s0, s1⟩ := unhide AT8 k (unhide HKY)
            have t0 := unhide FZ8 (k * 2) (by have := unhide HKY; omega)
            have t1 := unhide FZ8 (k * 2 + 1) (by have := unhide HKY; omega)
            simp only [Nat.zero_add] at s0 s1 t0 t1
            have HM2 := hide (show MidO w.heap.size g (q2 + 1) gb c5 w3 xs (k + 1) ((X8.setCell ⟨gb, k * 2, none⟩ (.string m.a0)).setCell ⟨gb, k * 2 + 1, none⟩ (.int .i64 (m.a1 + y))) from by
              have hh := mkHi_set (c := c5) hgb z8 (unhide AT8) (unhide FZ8) k (unhide HKY) ⟨m.a0, m.a1 + y⟩
              simp only [Nat.zero_add] at hh
              have t2 := ((Turn.refl [gb] X8).setCell (g := gb) (by simp) (k * 2) (.string m.a0)).setCell (g := gb) (by simp) (k * 2 + 1) (.int .i64 (m.a1 + y))
              refine ⟨⟨ys.set k ⟨m.a0, m.a1 + y⟩, by rw [unhide HY1] at hh; exact hh, by simp [unhide HY1], fun j h h' hj => ?_, fun x hx => ?_⟩, ⟨r + 1, by have := unhide HRQ; omega, RdIn.turn (unhide R8) t2 (by simp; omega) (by simp; omega)⟩, turn_join (unhide T8) (t2.mono (fun k hk => .inl (by simp at hk; simp [hk]))) hgb⟩
              · rw [List.getElem_set_ne (by omega)]
                exact unhide HY2 j (by simpa using h) h' (by omega)
              · rcases List.mem_or_eq_of_mem_set hx with hx | rfl
                · exact unhide HY3 x hx
                · unfold Near; dsimp only; omega)
            generalize ys[k].a0 = o0 at *
            generalize ys[k].a1 = o1 at *
            clear BX8 AT8 FZ8 R8 T8
            go_wp2_with fail
            go_roundw
            case rel => exact ⟨k + 1, by omega, by go_num, HM2⟩
            case measure => simp [intOf]; omega
        · obtain ⟨⟨ys, h1, h2, h3, h4⟩, _, h6⟩ := unhide HM
          have HE := hide (unhide HEND wr (.slice (some ⟨gb, 0, none⟩) len c5) ys h6 (by rw [← unhide HL]; exact h1.rd) (near_small (by have := unhide HL; omega) h4))
          clear h1 h2 h3 h4 h6 HM
          go_wp2_with fail
          go_ret2
          exact unhide HE
  · have hz' : ¬ 0 < z := hz
    go_wp2_with fail
    refine (l34Marks_any w.heap.size g (q2 + 1) w3 (by omega) (unhide R3)).mono ?_
    rintro e w4 ⟨u, ys, rfl, HU, HY, _, HT⟩
    obtain ⟨ua, un, uc, rfl⟩ := (unhide HU).rd.form
    have HE := hide (show RetTwoS w (.returned (.tuple #[.slice va len vc, .slice ua un uc])) w4 from ⟨_, xs, _, ys, rfl, hide ((unhide V3).turn (unhide HT) hgl).rd, SX, hide (unhide HU).rd, hide ((unhide HY).small (by omega)), (unhide B3).trans ((unhide HT).below (unhide B3).size (by simpa using hga))⟩)
    clear R3 HT B3 V3 HU
    go_wp2_with fail
    go_ret2
    exact unhide HE
end Go.Proofs.Ytmgmmgjlagkdoaa
