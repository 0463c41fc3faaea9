/-
  The program: what the words of a kind have behind their name is taken.
-/
import Derived.Test.YtiebfcefmdiajaaGreatDoorSayWord
import Derived.Test.YtiebfcefmdiajaaGreatDoorMerged14
import Derived.Test.YtiebfcefmdiajaaGreatDoorBoxes
import Derived.Deep.RegionHeld3
set_option linter.unusedVariables false
namespace Go.Proofs.YtiebfcefmdiajaaGreatDoor
open Go.RowKit Go.Maps Go.Deep

theorem BoxF.sixW {w : World} {g : Nat} {a b c d e f : Value} (h : BoxF w g [a, b, c, d, e, f]) : (w.cell? ⟨g, 0, none⟩ = some a ∧ w.cell? ⟨g, 1, none⟩ = some b ∧ w.cell? ⟨g, 2, none⟩ = some c ∧ w.cell? ⟨g, 3, none⟩ = some d ∧ w.cell? ⟨g, 4, none⟩ = some e ∧ w.cell? ⟨g, 5, none⟩ = some f) ∧ (w.frozen? ⟨g, 0, none⟩ = false ∧ w.frozen? ⟨g, 1, none⟩ = false ∧ w.frozen? ⟨g, 2, none⟩ = false ∧ w.frozen? ⟨g, 3, none⟩ = false ∧ w.frozen? ⟨g, 4, none⟩ = false ∧ w.frozen? ⟨g, 5, none⟩ = false) :=
  ⟨h.1.six, h.2 0 (by simp), h.2 1 (by simp), h.2 2 (by simp), h.2 3 (by simp), h.2 4 (by simp), h.2 5 (by simp)⟩
def Six (w : World) (q : Nat) : Prop := ∃ a b c d e f, BoxF w q [a, b, c, d, e, f]
def RetTell (B g q : Nat) (w : World) (kv fv tv nv : Value) (rest : List UInt8) (e : Ending) (w' : World) : Prop :=
  (∃ vl vs r v' sa sn sc, rdTail 2 rest = some ((vl, vs), r) ∧ e = .returned (.tuple #[]) ∧ Hid (RdIs B w' g v' r false) ∧ Hid (BoxF w' q [kv, fv, tv, nv, .int .i64 vl, .slice sa sn sc]) ∧ Hid (VrRow w.heap.size w' (.slice sa sn sc) vs) ∧ Hid (Turn [g, q] w w')) ∨
  (rdTail 2 rest = none ∧ e = .panicked shortChain ∧ Hid (Six w' q) ∧ Hid (Turn [g, q] w w'))
theorem RdIs.upW {B : Nat} {w w' : World} {g : Nat} {v : Value} {rest : List UInt8} {short : Bool} (h : RdIs B w g v rest short) (b : Below w.heap.size w w') : RdIs B w' g v rest short := h.turn (S := []) (Turn.of_below b) (by simp) (by simp)
set_option maxRecDepth 20000 in
set_option maxHeartbeats 6400000 in
theorem tell_take (B g q : Nat) (w : World) (v : Value) (kv fv tv nv : Value) (rest : List UInt8) (hl : rest.length ≤ 1048576) (hq : B ≤ q) (hqw : q < w.heap.size) (hne : q ≠ g) (hr : RdIs B w g v rest false) (hb : BoxF w q [kv, fv, tv, nv, .int .i64 0, .slice none 0 0]) :
    Calls Tryz.prog 154 #[.agg #[], .pointer (some ⟨g, 0, none⟩), .pointer (some ⟨q, 0, none⟩)] w fun e w' => RetTell B g q w kv fv tv nv rest e w' := by
  have bA := (Below.refl w.heap.size w).alloc (Nat.le_refl _) (.cells #[] 114)
  have HR := hide (hr.upW bA)
  have HB := hide (hb.up bA)
  have TA := hide (show Turn [g, q] w _ from Turn.of_below bA)
  have HGL := hide hr.lt
  have HGB := hide hr.le
  have hzA : w.heap.size ≤ (w.alloc (.cells #[] 114)).heap.size := bA.size
  have HZA := hide hzA
  clear hr hb bA hzA
  go_enter Tryz.func154, Tryz.ntmps154
  go_wp2_with fail
  generalize w.alloc (.cells #[] 114) = W at *
  refine (wnum_any B g W v rest 8 (by omega) hl (unhide HR)).mono ?_
  rintro e w1 (⟨vl, r1, v1, h1, rfl, R1, T1⟩ | ⟨h1, rfl, T1⟩)
  rotate_left
  · have HE := hide (show rdTail 2 rest = none by unfold rdTail; rw [if_pos rfl, h1]; rfl)
    have X1 := hide ((unhide HB).turn (unhide T1) (by simpa using hne))
    exact ⟨rfl, .inr ⟨unhide HE, rfl, hide ⟨_, _, _, _, _, _, unhide X1⟩, hide ((unhide TA).trans ((unhide T1).mono (by simp)))⟩⟩
  have X1 := hide ((unhide HB).turn (unhide T1) (by simpa using hne))
  have TT1 := hide ((unhide TA).trans ((unhide T1).mono (by simp)))
  have H1 := hide h1
  have hl1 : r1.length ≤ 1048576 := by have := (rdN_some h1).2.2; rw [this]; simp; omega
  clear h1 T1 HR HB TA
  obtain ⟨⟨c0, c1, c2, c3, c4, c5⟩, f0, f1, f2, f3, f4, f5⟩ := (unhide X1).sixW
  go_wp2_with fail
  clear c0 c1 c2 c3 c4 c5 f0 f1 f2 f3 f4 f5
  have T2 := (Turn.refl [q] w1).setCell (g := q) (by simp) 4 (.int .i64 vl)
  have R2 := hide ((unhide R1).turn T2 (by simpa using hne.symm) (by simpa using hq))
  have X2 := hide ((unhide X1).set 4 (.int .i64 vl) (by simp))
  simp only [List.set] at X2
  have TT2 := hide ((unhide TT1).trans (T2.mono (by simp)))
  clear T2 R1 X1 TT1
  generalize w1.setCell ⟨q, 4, none⟩ (.int .i64 vl) = W2 at *
  refine (wnum_any B g W2 v1 r1 1 (by omega) hl1 (unhide R2)).mono ?_
  rintro e w3 (⟨n, r2, v2, h2, rfl, R3, T3⟩ | ⟨h2, rfl, T3⟩)
  rotate_left
  · have HE := hide (show rdTail 2 rest = none by unfold rdTail; rw [if_pos rfl, unhide H1]; simp only [Option.bind_some]; rw [h2]; rfl)
    have X3 := hide ((unhide X2).turn (unhide T3) (by simpa using hne))
    exact ⟨rfl, .inr ⟨unhide HE, rfl, hide ⟨_, _, _, _, _, _, unhide X3⟩, hide ((unhide TT2).trans ((unhide T3).mono (by simp)))⟩⟩
  have X3 := hide ((unhide X2).turn (unhide T3) (by simpa using hne))
  have TT3 := hide ((unhide TT2).trans ((unhide T3).mono (by simp)))
  have hn := rdN_byte h2
  have hl2 : r2.length ≤ 1048576 := by have := (rdN_some h2).2.2; rw [this]; simp; omega
  obtain ⟨N, rfl⟩ : ∃ N : Nat, n = (N : Int) := ⟨n.toNat, by omega⟩
  have HN := hide (show N ≤ 255 by omega)
  have HT := hide (show rdTail 2 rest = (rdVs N r2).bind fun t => some ((vl, t.1), t.2) by unfold rdTail; rw [if_pos rfl, unhide H1]; simp only [Option.bind_some]; rw [h2]; rfl)
  clear h2 T3 R2 X2 TT2 H1 hn
  go_wp2_with fail
  --LOOP
  have V3 := hide (VrRow.nil w.heap.size w3)
  have Z3 := hide (unhide TT3).size
  go_loopw [14] (fun i wr => ∃ (k : Nat) (sa : Option Addr) (sn sc : Nat) (vs : List VerV) (r : List UInt8) (vr : Value), k ≤ N ∧ i = .int .i64 (k : Int) ∧ Hid (rdVs k r2 = some (vs, r)) ∧ Hid (vs.length = k) ∧ Hid (r.length ≤ 1048576) ∧ Hid (RdIs B wr g vr r false) ∧ Hid (BoxF wr q [kv, fv, tv, nv, .int .i64 vl, .slice sa sn sc]) ∧ Hid (VrRow w.heap.size wr (.slice sa sn sc) vs) ∧ Hid (Turn [g, q] w wr)) (fun i _ => N - (intOf i).toNat)
  case atStart => exact ⟨0, none, 0, 0, [], r2, v2, Nat.zero_le _, rfl, hide rfl, hide rfl, hide hl2, R3, X3, V3, TT3⟩
  case round =>
    clear R3 X3 V3 TT3 Z3
    obtain ⟨k, sa, sn, sc, vs, r, vr, hk, rfl, HV, VL, HRL, RR, XX, VV, TT⟩ := hrel
    have hN255 := unhide HN
    by_cases hlt : (k : Int) < (N : Int)
    rotate_left
    · have HE := hide (show rdTail 2 rest = some ((vl, vs), r) by
        obtain rfl : k = N := by omega
        rw [unhide HT, unhide HV]
        rfl)
      go_wp2_with fail
      go_end0
      exact .inl ⟨vl, vs, r, vr, sa, sn, sc, unhide HE, rfl, RR, XX, VV, TT⟩
    go_wp2_with fail
    refine (wtext_any B g wr vr r (unhide HRL) (unhide RR)).mono ?_
    rintro e w4 (⟨s, r3, v3, h3, rfl, R4, T4⟩ | ⟨h3, rfl, T4⟩)
    rotate_left
    · have HE := hide (show rdTail 2 rest = none by
        have hN : rdVs (k + 1) r2 = none := by
          rw [rdVs, unhide HV]
          simp only [Option.bind_some]
          unfold rdV
          rw [h3]
          rfl
        rw [unhide HT, rdVs_none hN (by omega)]
        rfl)
      have X4 := hide ((unhide XX).turn (unhide T4) (by simpa using hne))
      exact ⟨rfl, .inr ⟨unhide HE, rfl, hide ⟨_, _, _, _, _, _, unhide X4⟩, hide ((unhide TT).trans ((unhide T4).mono (by simp)))⟩⟩
    have X4 := hide ((unhide XX).turn (unhide T4) (by simpa using hne))
    have NIN := hide (show ∀ g', (Value.slice sa sn sc).ownBlock = some g' → g' ≠ g ∧ g' ≠ q from fun g' hg => by have := (unhide VV).ge g' hg; have := unhide HGL; omega)
    have V4 := hide ((unhide VV).keep (fun g' hg => (unhide T4).block g' ((unhide VV).lt g' hg) (by have := (unhide NIN g' hg).1; simpa using this)))
    have TT4 := hide ((unhide TT).trans ((unhide T4).mono (by simp)))
    have HRL4 := hide (show r3.length ≤ 1048576 by have := congrArg List.length (rdT_back h3).1; have := unhide HRL; rw [List.length_append] at *; omega)
    have H3 := hide h3
    clear h3 T4 RR XX VV TT
    go_wp2_with fail
    have bD : Below w4.heap.size w4 w4.drew := (Below.refl _ _).drew
    have R5 := hide ((unhide R4).upW bD)
    have X5 := hide ((unhide X4).up bD)
    have V5 := hide ((unhide V4).up bD)
    have TT5 := hide ((unhide TT4).trans (Turn.of_below bD))
    clear bD R4 X4 V4 TT4
    refine wp_region_any (by kernel_rfl) ?_
    change wpAny _ _ _ _ _ _ _ (World.drew _)
    generalize w4.drew = W4 at *
    refine wpAny_take (i := 0) (v := .pointer (some ⟨q, 0, none⟩)) rfl (by kernel_rfl) (by kernel_rfl) (by kernel_rfl) (fun _ _ _ h => h) (Or.inl ⟨by rfl, ?_⟩) ?_
    · intro w'
      go_simp
      try with_reducible rfl
    try simp [Act.put]
    refine wpAny_take (i := 1) (v := .pointer (some ⟨q, 0, none⟩)) rfl (by kernel_rfl) (by kernel_rfl) (by kernel_rfl) (fun _ _ _ h => h) (Or.inl ⟨by rfl, ?_⟩) ?_
    · intro w'
      go_simp
      try with_reducible rfl
    try simp [Act.put]
    refine wpAny_take (i := 2) (v := .pointer (some ⟨q, 0, none⟩)) rfl (by kernel_rfl) (by kernel_rfl) (by kernel_rfl) (fun _ _ _ h => h) (Or.inl ⟨by rfl, ?_⟩) ?_
    · intro w'
      go_simp
      try with_reducible rfl
    try simp [Act.put]
    refine wpAny_take (i := 3) (v := .pointer (some ⟨q, 5, none⟩)) rfl (by kernel_rfl) (by kernel_rfl) (by kernel_rfl) (fun _ _ _ h => h) (Or.inl ⟨by rfl, ?_⟩) ?_
    · intro w'
      go_simp
      try with_reducible rfl
    try simp [Act.put]
    refine wpAny_take (i := 5) (v := .string s) rfl (by kernel_rfl) (by kernel_rfl) (by kernel_rfl) (fun _ _ _ h => h) (Or.inl ⟨by rfl, ?_⟩) ?_
    · intro w'
      go_simp
      try with_reducible rfl
    try simp [Act.put]
    refine wpAny_take (i := 6) (v := .pointer (some ⟨g, 0, none⟩)) rfl (by kernel_rfl) (by kernel_rfl) (by kernel_rfl) (fun _ _ _ h => h) (Or.inl ⟨by rfl, ?_⟩) ?_
    · intro w'
      go_simp
      try with_reducible rfl
    try simp [Act.put]
    refine wpAny_ready (rs := [4, 7]) (by kernel_rfl) (by simp) ?_
    refine AllReady.cons rfl (fun K hK => ?_) (AllReady.cons rfl (fun K hK => ?_) AllReady.nil)
    · skip
      obtain ⟨⟨l0, l1, l2, l3, l4, l5⟩, -⟩ := (unhide X5).sixW
      have hKK := hK
      clear hK
      go_simp
      refine hKK _ _ ?_
      clear hKK K
      try simp [Act.put]
      clear l0 l1 l2 l3 l4 l5
      refine wpAny_ready (rs := [7]) (by kernel_rfl) (by simp) ?_
      refine AllReady.cons rfl (fun K hK => ?_) AllReady.nil
      have hKK := hK
      clear hK
      go_simp
      refine (wnum_any B g W4 v3 r3 6 (by omega) (unhide HRL4) (unhide R5)).mono ?_
      rintro e w7 (⟨x, r4, v4, h4, rfl, R7, T7⟩ | ⟨h4, rfl, T7⟩)
      rotate_left
      · have HE := hide (show rdTail 2 rest = none by
          have hN : rdVs (k + 1) r2 = none := by
            rw [rdVs, unhide HV]
            simp only [Option.bind_some]
            unfold rdV
            rw [unhide H3]
            simp only [Option.bind_some]
            rw [h4]
            rfl
          rw [unhide HT, rdVs_none hN (by omega)]
          rfl)
        have X7 := hide ((unhide X5).turn (unhide T7) (by simpa using hne))
        exact ⟨rfl, .inr ⟨unhide HE, rfl, hide ⟨_, _, _, _, _, _, unhide X7⟩, hide ((unhide TT5).trans ((unhide T7).mono (by simp)))⟩⟩
      have HV7 := hide (show rdVs (k + 1) r2 = some (vs ++ [⟨s, x⟩], r4) by
        rw [rdVs, unhide HV]
        simp only [Option.bind_some]
        unfold rdV
        rw [unhide H3]
        simp only [Option.bind_some]
        rw [h4]
        rfl)
      have HRL7 := hide (show r4.length ≤ 1048576 by have := (rdN_some h4).2.2; have := unhide HRL4; rw [‹r4 = _›]; simp; omega)
      have X7 := hide ((unhide X5).turn (unhide T7) (by simpa using hne))
      have V7 := hide ((unhide V5).keep (fun g' hg => (unhide T7).block g' ((unhide V5).lt g' hg) (by have := (unhide NIN g' hg).1; simpa using this)))
      have TT7 := hide ((unhide TT5).trans ((unhide T7).mono (by simp)))
      clear h4 T7
      have b8 := (Below.refl w7.heap.size w7).alloc (Nat.le_refl _) (.cells #[.string s, .int .i64 x] 57)
      have N8 := hide (boxF_new w7 [.string s, .int .i64 x] 57).1.two
      have R8 := hide ((unhide R7).upW b8)
      have X8 := hide ((unhide X7).up b8)
      have V8 := hide ((unhide V7).up b8)
      have TT8 := hide ((unhide TT7).trans (Turn.of_below b8))
      have Z8 := hide (show w.heap.size ≤ (w7.alloc (.cells #[.string s, .int .i64 x] 57)).heap.size from (unhide TT8).size)
      clear b8
      refine hKK _ _ ?_
      clear hKK K
      try simp [Act.put]
      refine wpAny_take (i := 8) (v := .agg #[.string s, .int .i64 x]) rfl (by kernel_rfl) (by kernel_rfl) (by kernel_rfl) (fun _ _ _ h => h) (Or.inl ⟨by rfl, ?_⟩) ?_
      · intro w'
        go_simp
        try with_reducible rfl
      try simp [Act.put]
      refine wpAny_ready (rs := [9]) (by kernel_rfl) (by simp) ?_
      refine AllReady.cons rfl (fun K hK => ?_) AllReady.nil
      have hKK := hK
      clear hK
      go_simp
      refine hKK _ _ ?_
      clear hKK K
      try simp [Act.put]
      refine wpAny_ready (rs := [10]) (by kernel_rfl) (by simp) ?_
      refine AllReady.cons rfl (fun K hK => ?_) AllReady.nil
      have hKK := hK
      clear hK
      refine step_vrAppend (w := w7.alloc (.cells #[.string s, .int .i64 x] 57)) (by rfl) (.tmp 22) (.tmp 27) (by rfl) w.heap.size (.slice sa sn sc) vs ⟨s, x⟩ w7.heap.size (by rfl) (by rfl) (unhide V8) (unhide N8).1 (unhide N8).2 (by have := unhide VL; have := unhide HN; omega) (unhide Z8) ?_
      intro g9 n9 c9 w9 r9 gr9
      have t9 : Turn ((Value.slice sa sn sc).ownBlock.toList) _ w9 := Turn.of_grown gr9 (fun k hk => .inl (by rw [hk]; simp))
      have NI9 := hide (show ∀ g' ∈ (Value.slice sa sn sc).ownBlock.toList, w.heap.size ≤ g' from fun g' hg => (unhide V8).ge g' (by simpa using hg))
      have R9 := hide ((unhide R8).turn t9 (fun hm => by have := unhide NI9 _ hm; have := unhide HGL; omega) (fun g' hg => by have := unhide NI9 g' hg; have := unhide HGL; have := unhide HGB; omega))
      have X9 := hide ((unhide X8).turn t9 (fun hm => by have := unhide NI9 _ hm; omega))
      have TT9 := hide ((((unhide TT8).mono (fun j hj => .inl (List.mem_append_left _ hj))).trans (t9.mono (fun j hj => .inl (List.mem_append_right [g, q] hj)))).mono (fun j hj => (List.mem_append.1 hj).elim .inl (fun h => .inr (unhide NI9 j h))))
      have V9 := hide r9
      clear gr9 r9 t9
      refine hKK _ _ ?_
      clear hKK K
      try simp [Act.put]
      refine wpAny_take (i := 11) (v := .pointer (some ⟨q, 0, none⟩)) rfl (by kernel_rfl) (by kernel_rfl) (by kernel_rfl) (fun _ _ _ h => h) (Or.inl ⟨by rfl, ?_⟩) ?_
      · intro w'
        go_simp
        try with_reducible rfl
      try simp [Act.put]
      refine wpAny_take (i := 12) (v := .pointer (some ⟨q, 5, none⟩)) rfl (by kernel_rfl) (by kernel_rfl) (by kernel_rfl) (fun _ _ _ h => h) (Or.inl ⟨by rfl, ?_⟩) ?_
      · intro w'
        go_simp
        try with_reducible rfl
      try simp [Act.put]
      refine wpAny_ready (rs := [13]) (by kernel_rfl) (by simp) ?_
      refine AllReady.cons rfl (fun K hK => ?_) AllReady.nil
      obtain ⟨⟨l0, l1, l2, l3, l4, l5⟩, y0, y1, y2, y3, y4, y5⟩ := (unhide X9).sixW
      have hKK := hK
      clear hK
      go_simp
      refine hKK _ _ ?_
      clear hKK K
      try simp [Act.put]
      clear l0 l1 l2 l3 l4 l5 y0 y1 y2 y3 y4 y5
      have TA := (Turn.refl [q] w9).setCell (g := q) (by simp) 5 (.slice (some ⟨g9, 0, none⟩) n9 c9)
      have RA := hide ((unhide R9).turn TA (by simpa using hne.symm) (by simpa using hq))
      have XA := hide ((unhide X9).set 5 (.slice (some ⟨g9, 0, none⟩) n9 c9) (by simp))
      simp only [List.set] at XA
      have VA := hide ((unhide V9).keep (fun g' hg => TA.block g' ((unhide V9).lt g' hg) (by have := (unhide V9).ge g' hg; simp; omega)))
      have TTA := hide ((unhide TT9).trans (TA.mono (by simp)))
      clear TA
      refine wpAny_done (by kernel_rfl) ?_ _
      go_wp2_with fail
      go_roundw
      case rel => exact ⟨k + 1, some ⟨g9, 0, none⟩, n9, c9, _, r4, v4, by omega, by go_num, HV7, hide (by have := unhide VL; simp; omega), HRL7, RA, XA, VA, TTA⟩
      case measure => simp [intOf]; omega
    · skip
      have hKK := hK
      clear hK
      go_simp
      refine (wnum_any B g W4 v3 r3 6 (by omega) (unhide HRL4) (unhide R5)).mono ?_
      rintro e w7 (⟨x, r4, v4, h4, rfl, R7, T7⟩ | ⟨h4, rfl, T7⟩)
      rotate_left
      · have HE := hide (show rdTail 2 rest = none by
          have hN : rdVs (k + 1) r2 = none := by
            rw [rdVs, unhide HV]
            simp only [Option.bind_some]
            unfold rdV
            rw [unhide H3]
            simp only [Option.bind_some]
            rw [h4]
            rfl
          rw [unhide HT, rdVs_none hN (by omega)]
          rfl)
        have X7 := hide ((unhide X5).turn (unhide T7) (by simpa using hne))
        exact ⟨rfl, .inr ⟨unhide HE, rfl, hide ⟨_, _, _, _, _, _, unhide X7⟩, hide ((unhide TT5).trans ((unhide T7).mono (by simp)))⟩⟩
      have HV7 := hide (show rdVs (k + 1) r2 = some (vs ++ [⟨s, x⟩], r4) by
        rw [rdVs, unhide HV]
        simp only [Option.bind_some]
        unfold rdV
        rw [unhide H3]
        simp only [Option.bind_some]
        rw [h4]
        rfl)
      have HRL7 := hide (show r4.length ≤ 1048576 by have := (rdN_some h4).2.2; have := unhide HRL4; rw [‹r4 = _›]; simp; omega)
      have X7 := hide ((unhide X5).turn (unhide T7) (by simpa using hne))
      have V7 := hide ((unhide V5).keep (fun g' hg => (unhide T7).block g' ((unhide V5).lt g' hg) (by have := (unhide NIN g' hg).1; simpa using this)))
      have TT7 := hide ((unhide TT5).trans ((unhide T7).mono (by simp)))
      clear h4 T7
      have b8 := (Below.refl w7.heap.size w7).alloc (Nat.le_refl _) (.cells #[.string s, .int .i64 x] 57)
      have N8 := hide (boxF_new w7 [.string s, .int .i64 x] 57).1.two
      have R8 := hide ((unhide R7).upW b8)
      have X8 := hide ((unhide X7).up b8)
      have V8 := hide ((unhide V7).up b8)
      have TT8 := hide ((unhide TT7).trans (Turn.of_below b8))
      have Z8 := hide (show w.heap.size ≤ (w7.alloc (.cells #[.string s, .int .i64 x] 57)).heap.size from (unhide TT8).size)
      clear b8
      refine hKK _ _ ?_
      clear hKK K
      try simp [Act.put]
      refine wpAny_take (i := 8) (v := .agg #[.string s, .int .i64 x]) rfl (by kernel_rfl) (by kernel_rfl) (by kernel_rfl) (fun _ _ _ h => h) (Or.inl ⟨by rfl, ?_⟩) ?_
      · intro w'
        go_simp
        try with_reducible rfl
      try simp [Act.put]
      refine wpAny_ready (rs := [4, 9]) (by kernel_rfl) (by simp) ?_
      refine AllReady.cons rfl (fun K hK => ?_) (AllReady.cons rfl (fun K hK => ?_) AllReady.nil)
      · skip
        obtain ⟨⟨l0, l1, l2, l3, l4, l5⟩, -⟩ := (unhide X7).sixW
        have hKK := hK
        clear hK
        go_simp
        refine hKK _ _ ?_
        clear hKK K
        try simp [Act.put]
        clear l0 l1 l2 l3 l4 l5
        refine wpAny_ready (rs := [9]) (by kernel_rfl) (by simp) ?_
        refine AllReady.cons rfl (fun K hK => ?_) AllReady.nil
        have hKK := hK
        clear hK
        go_simp
        refine hKK _ _ ?_
        clear hKK K
        try simp [Act.put]
        refine wpAny_ready (rs := [10]) (by kernel_rfl) (by simp) ?_
        refine AllReady.cons rfl (fun K hK => ?_) AllReady.nil
        have hKK := hK
        clear hK
        refine step_vrAppend (w := w7.alloc (.cells #[.string s, .int .i64 x] 57)) (by rfl) (.tmp 22) (.tmp 27) (by rfl) w.heap.size (.slice sa sn sc) vs ⟨s, x⟩ w7.heap.size (by rfl) (by rfl) (unhide V8) (unhide N8).1 (unhide N8).2 (by have := unhide VL; have := unhide HN; omega) (unhide Z8) ?_
        intro g9 n9 c9 w9 r9 gr9
        have t9 : Turn ((Value.slice sa sn sc).ownBlock.toList) _ w9 := Turn.of_grown gr9 (fun k hk => .inl (by rw [hk]; simp))
        have NI9 := hide (show ∀ g' ∈ (Value.slice sa sn sc).ownBlock.toList, w.heap.size ≤ g' from fun g' hg => (unhide V8).ge g' (by simpa using hg))
        have R9 := hide ((unhide R8).turn t9 (fun hm => by have := unhide NI9 _ hm; have := unhide HGL; omega) (fun g' hg => by have := unhide NI9 g' hg; have := unhide HGL; have := unhide HGB; omega))
        have X9 := hide ((unhide X8).turn t9 (fun hm => by have := unhide NI9 _ hm; omega))
        have TT9 := hide ((((unhide TT8).mono (fun j hj => .inl (List.mem_append_left _ hj))).trans (t9.mono (fun j hj => .inl (List.mem_append_right [g, q] hj)))).mono (fun j hj => (List.mem_append.1 hj).elim .inl (fun h => .inr (unhide NI9 j h))))
        have V9 := hide r9
        clear gr9 r9 t9
        refine hKK _ _ ?_
        clear hKK K
        try simp [Act.put]
        refine wpAny_take (i := 11) (v := .pointer (some ⟨q, 0, none⟩)) rfl (by kernel_rfl) (by kernel_rfl) (by kernel_rfl) (fun _ _ _ h => h) (Or.inl ⟨by rfl, ?_⟩) ?_
        · intro w'
          go_simp
          try with_reducible rfl
        try simp [Act.put]
        refine wpAny_take (i := 12) (v := .pointer (some ⟨q, 5, none⟩)) rfl (by kernel_rfl) (by kernel_rfl) (by kernel_rfl) (fun _ _ _ h => h) (Or.inl ⟨by rfl, ?_⟩) ?_
        · intro w'
          go_simp
          try with_reducible rfl
        try simp [Act.put]
        refine wpAny_ready (rs := [13]) (by kernel_rfl) (by simp) ?_
        refine AllReady.cons rfl (fun K hK => ?_) AllReady.nil
        obtain ⟨⟨l0, l1, l2, l3, l4, l5⟩, y0, y1, y2, y3, y4, y5⟩ := (unhide X9).sixW
        have hKK := hK
        clear hK
        go_simp
        refine hKK _ _ ?_
        clear hKK K
        try simp [Act.put]
        clear l0 l1 l2 l3 l4 l5 y0 y1 y2 y3 y4 y5
        have TA := (Turn.refl [q] w9).setCell (g := q) (by simp) 5 (.slice (some ⟨g9, 0, none⟩) n9 c9)
        have RA := hide ((unhide R9).turn TA (by simpa using hne.symm) (by simpa using hq))
        have XA := hide ((unhide X9).set 5 (.slice (some ⟨g9, 0, none⟩) n9 c9) (by simp))
        simp only [List.set] at XA
        have VA := hide ((unhide V9).keep (fun g' hg => TA.block g' ((unhide V9).lt g' hg) (by have := (unhide V9).ge g' hg; simp; omega)))
        have TTA := hide ((unhide TT9).trans (TA.mono (by simp)))
        clear TA
        refine wpAny_done (by kernel_rfl) ?_ _
        go_wp2_with fail
        go_roundw
        case rel => exact ⟨k + 1, some ⟨g9, 0, none⟩, n9, c9, _, r4, v4, by omega, by go_num, HV7, hide (by have := unhide VL; simp; omega), HRL7, RA, XA, VA, TTA⟩
        case measure => simp [intOf]; omega
      · skip
        have hKK := hK
        clear hK
        go_simp
        refine hKK _ _ ?_
        clear hKK K
        try simp [Act.put]
        refine wpAny_ready (rs := [4]) (by kernel_rfl) (by simp) ?_
        refine AllReady.cons rfl (fun K hK => ?_) AllReady.nil
        obtain ⟨⟨l0, l1, l2, l3, l4, l5⟩, -⟩ := (unhide X8).sixW
        have hKK := hK
        clear hK
        go_simp
        refine hKK _ _ ?_
        clear hKK K
        try simp [Act.put]
        clear l0 l1 l2 l3 l4 l5
        refine wpAny_ready (rs := [10]) (by kernel_rfl) (by simp) ?_
        refine AllReady.cons rfl (fun K hK => ?_) AllReady.nil
        have hKK := hK
        clear hK
        refine step_vrAppend (w := w7.alloc (.cells #[.string s, .int .i64 x] 57)) (by rfl) (.tmp 22) (.tmp 27) (by rfl) w.heap.size (.slice sa sn sc) vs ⟨s, x⟩ w7.heap.size (by rfl) (by rfl) (unhide V8) (unhide N8).1 (unhide N8).2 (by have := unhide VL; have := unhide HN; omega) (unhide Z8) ?_
        intro g9 n9 c9 w9 r9 gr9
        have t9 : Turn ((Value.slice sa sn sc).ownBlock.toList) _ w9 := Turn.of_grown gr9 (fun k hk => .inl (by rw [hk]; simp))
        have NI9 := hide (show ∀ g' ∈ (Value.slice sa sn sc).ownBlock.toList, w.heap.size ≤ g' from fun g' hg => (unhide V8).ge g' (by simpa using hg))
        have R9 := hide ((unhide R8).turn t9 (fun hm => by have := unhide NI9 _ hm; have := unhide HGL; omega) (fun g' hg => by have := unhide NI9 g' hg; have := unhide HGL; have := unhide HGB; omega))
        have X9 := hide ((unhide X8).turn t9 (fun hm => by have := unhide NI9 _ hm; omega))
        have TT9 := hide ((((unhide TT8).mono (fun j hj => .inl (List.mem_append_left _ hj))).trans (t9.mono (fun j hj => .inl (List.mem_append_right [g, q] hj)))).mono (fun j hj => (List.mem_append.1 hj).elim .inl (fun h => .inr (unhide NI9 j h))))
        have V9 := hide r9
        clear gr9 r9 t9
        refine hKK _ _ ?_
        clear hKK K
        try simp [Act.put]
        refine wpAny_take (i := 11) (v := .pointer (some ⟨q, 0, none⟩)) rfl (by kernel_rfl) (by kernel_rfl) (by kernel_rfl) (fun _ _ _ h => h) (Or.inl ⟨by rfl, ?_⟩) ?_
        · intro w'
          go_simp
          try with_reducible rfl
        try simp [Act.put]
        refine wpAny_take (i := 12) (v := .pointer (some ⟨q, 5, none⟩)) rfl (by kernel_rfl) (by kernel_rfl) (by kernel_rfl) (fun _ _ _ h => h) (Or.inl ⟨by rfl, ?_⟩) ?_
        · intro w'
          go_simp
          try with_reducible rfl
        try simp [Act.put]
        refine wpAny_ready (rs := [13]) (by kernel_rfl) (by simp) ?_
        refine AllReady.cons rfl (fun K hK => ?_) AllReady.nil
        obtain ⟨⟨l0, l1, l2, l3, l4, l5⟩, y0, y1, y2, y3, y4, y5⟩ := (unhide X9).sixW
        have hKK := hK
        clear hK
        go_simp
        refine hKK _ _ ?_
        clear hKK K
        try simp [Act.put]
        clear l0 l1 l2 l3 l4 l5 y0 y1 y2 y3 y4 y5
        have TA := (Turn.refl [q] w9).setCell (g := q) (by simp) 5 (.slice (some ⟨g9, 0, none⟩) n9 c9)
        have RA := hide ((unhide R9).turn TA (by simpa using hne.symm) (by simpa using hq))
        have XA := hide ((unhide X9).set 5 (.slice (some ⟨g9, 0, none⟩) n9 c9) (by simp))
        simp only [List.set] at XA
        have VA := hide ((unhide V9).keep (fun g' hg => TA.block g' ((unhide V9).lt g' hg) (by have := (unhide V9).ge g' hg; simp; omega)))
        have TTA := hide ((unhide TT9).trans (TA.mono (by simp)))
        clear TA
        refine wpAny_done (by kernel_rfl) ?_ _
        go_wp2_with fail
        go_roundw
        case rel => exact ⟨k + 1, some ⟨g9, 0, none⟩, n9, c9, _, r4, v4, by omega, by go_num, HV7, hide (by have := unhide VL; simp; omega), HRL7, RA, XA, VA, TTA⟩
        case measure => simp [intOf]; omega
end Go.Proofs.YtiebfcefmdiajaaGreatDoor
