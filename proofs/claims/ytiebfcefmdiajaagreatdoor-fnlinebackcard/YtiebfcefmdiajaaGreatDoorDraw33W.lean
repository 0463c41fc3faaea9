/-
  The specification's draw of a word. (Made by wip/mkdraw33w.py.)
-/
import Derived.Test.YtiebfcefmdiajaaGreatDoorDraw33V
import Derived.Deep.RegionHeld
set_option linter.unusedVariables false
namespace Go.Proofs.YtiebfcefmdiajaaGreatDoor
open Go.RowKit Go.Maps Go.Deep

def kF33 (j : Nat) : Int := [(1 : Int), 2, 2, 2, 3].getD j 0
theorem kF33_fit (j : Nat) : -1000 ≤ kF33 j ∧ kF33 j ≤ 1000 := by
  match j with
  | 0 | 1 | 2 | 3 | 4 => unfold kF33; decide
  | n + 5 => simp [kF33]
/-- a literal's ints, kept behind what comes -/
def Ks (w : World) (gb : Nat) : Prop := gb < w.heap.size ∧ ∀ j, j < 5 → w.cell? ⟨gb, j, none⟩ = some (.int .i64 (kF33 j))
theorem Ks.new (w : World) : Ks (w.alloc (.cells #[.int .i64 1, .int .i64 2, .int .i64 2, .int .i64 2, .int .i64 3] 3)) w.heap.size := ⟨by simp, fun j hj => by
  rw [World.cell?_alloc_at _ _ _ _ rfl]
  match j, hj with
  | 0, _ | 1, _ | 2, _ | 3, _ | 4, _ => rfl⟩
theorem Ks.up {w w' : World} {gb : Nat} (h : Ks w gb) (b : Below w.heap.size w w') : Ks w' gb := ⟨Nat.lt_of_lt_of_le h.1 b.size, fun j hj => (b.cell (p := ⟨gb, j, none⟩) h.1).trans (h.2 j hj)⟩
theorem Ks.turn {w w' : World} {gb g : Nat} (h : Ks w gb) (t : Turn [g] w w') (hg : gb ≠ g) : Ks w' gb := ⟨Nat.lt_of_lt_of_le h.1 t.size, fun j hj => (t.cell h.1 (by simpa using hg)).trans (h.2 j hj)⟩
theorem allocB (w : World) (ob : Obj) : Below w.heap.size w (w.alloc ob) := (Below.refl _ _).alloc (Nat.le_refl _) ob
theorem far33 {w : World} {gb ga j : Nat} {v x0 x1 x2 x3 x4 x5 : Value} (h : gb ≠ ga) (hc : w.cell? ⟨gb, j, none⟩ = some v) : ((((((w.setCell ⟨ga, 0, none⟩ x0).setCell ⟨ga, 1, none⟩ x1).setCell ⟨ga, 2, none⟩ x2).setCell ⟨ga, 3, none⟩ x3).setCell ⟨ga, 4, none⟩ x4).setCell ⟨ga, 5, none⟩ x5).cell? ⟨gb, j, none⟩ = some v := by
  have t : Turn [ga] w ((((((w.setCell ⟨ga, 0, none⟩ x0).setCell ⟨ga, 1, none⟩ x1).setCell ⟨ga, 2, none⟩ x2).setCell ⟨ga, 3, none⟩ x3).setCell ⟨ga, 4, none⟩ x4).setCell ⟨ga, 5, none⟩ x5) := ((((((Turn.refl _ _).setCell (by simp) _ _).setCell (by simp) _ _).setCell (by simp) _ _).setCell (by simp) _ _).setCell (by simp) _ _).setCell (by simp) _ _
  exact (t.cell (lt_of_cell0 hc) (by simpa using h)).trans hc
theorem verLit2 (w : World) (gd B : Nat) (hB : B ≤ w.heap.size) (hg : ∀ {k : Nat}, w.heap.size ≤ k → k ≠ gd) : VrHi B gd (w.alloc (.cells #[.string ⟨#[121]⟩, .int .i64 1, .string ⟨#[120]⟩, .int .i64 1] 57)) (some ⟨w.heap.size, 0, none⟩) 2 [⟨⟨#[121]⟩, 1⟩, ⟨⟨#[120]⟩, 1⟩] :=
  ⟨rfl, .inr ⟨w.heap.size, 0, rfl, hB, hg (Nat.le_refl _), by simp, fun i hi => by
    match i, hi with
    | 0, _ => exact ⟨World.cell?_alloc_at _ _ _ _ rfl, World.cell?_alloc_at _ _ _ _ rfl⟩
    | 1, _ => exact ⟨World.cell?_alloc_at _ _ _ _ rfl, World.cell?_alloc_at _ _ _ _ rfl⟩⟩⟩
theorem verLit1 (w : World) (gd B : Nat) (x : Int) (hB : B ≤ w.heap.size) (hg : ∀ {k : Nat}, w.heap.size ≤ k → k ≠ gd) : VrHi B gd (w.alloc (.cells #[.string ⟨#[120]⟩, .int .i64 x] 57)) (some ⟨w.heap.size, 0, none⟩) 1 [⟨⟨#[120]⟩, x⟩] :=
  ⟨rfl, .inr ⟨w.heap.size, 0, rfl, hB, hg (Nat.le_refl _), by simp, fun i hi => by
    match i, hi with
    | 0, _ => exact ⟨World.cell?_alloc_at _ _ _ _ rfl, World.cell?_alloc_at _ _ _ _ rfl⟩⟩⟩
theorem far1 {w : World} {gd : Nat} {v x : Value} (hc : w.cell? ⟨gd, 1, none⟩ = some v) : (w.setCell ⟨gd, 2, none⟩ x).cell? ⟨gd, 1, none⟩ = some v := (World.cell?_setCell_other _ _ _ _ (by intro e; cases e)).trans hc
theorem tmod10 (x : Int) : -1000 ≤ Int.tmod x 10 ∧ Int.tmod x 10 ≤ 1000 := by
  rcases Int.le_total 0 x with h | h
  · rw [Int.tmod_eq_emod_of_nonneg h]
    omega
  · have e : Int.tmod x 10 = -Int.tmod (-x) 10 := by rw [Int.neg_tmod]; omega
    rw [e, Int.tmod_eq_emod_of_nonneg (by omega)]
    omega
set_option maxRecDepth 20000 in
set_option maxHeartbeats 25600000 in
theorem l33Say_any (base g N : Nat) (w0 w : World) (hN : N ≤ 100000) (h : Rdy base g N w0 w) :
    Calls Tryz.prog 32 #[.pointer (some ⟨g, 0, none⟩)] w fun e w' => RetSay33 base g (N + 300) w0 w e w' := by
  have HZ := hide (Nat.lt_of_lt_of_le h.lt h.turn.size)
  have HS0 := hide h.size
  have X0 := hide (boxF_new w zero6 24)
  have D0 := hide (h.alloc (.cells zero6.toArray 24))
  clear h
  go_enter Tryz.func32, Tryz.ntmps32
  go_upto_region 1 with fail
  rw [show (zero6.toArray) = #[.int .i64 0, .int .i64 0, .int .i64 0, .string ⟨#[]⟩, .int .i64 0, .slice none 0 0] from rfl] at X0 D0
  generalize w.alloc (.cells #[.int .i64 0, .int .i64 0, .int .i64 0, .string ⟨#[]⟩, .int .i64 0, .slice none 0 0] 24) = W0 at *
  go_cut [3] (fun s3 wx => ∃ gd, s3 = .pointer (some ⟨gd, 0, none⟩) ∧ Hid (SSt base g (N + 3) w0 w gd wx))
  case first =>
    have DD := hide ((unhide D0).up ((Below.refl _ _).drew))
    have XX := hide ((unhide X0).up ((Below.refl _ _).drew))
    clear D0 X0
    refine wp_region_any (by kernel_rfl) ?_
    change wpAny _ _ _ _ _ _ _ (World.drew _)
    generalize W0.drew = WX at *
    refine wpAny_take (i := 1) (v := .pointer (some ⟨g, 0, none⟩)) rfl (by kernel_rfl) (by kernel_rfl) (by kernel_rfl) (fun _ _ _ h => h) (Or.inl ⟨by rfl, ?_⟩) ?_
    · intro w'
      go_simp
      try with_reducible rfl
    try simp [Act.put]
    refine wpAny_take (i := 5) (v := .pointer (some ⟨g, 0, none⟩)) rfl (by kernel_rfl) (by kernel_rfl) (by kernel_rfl) (fun _ _ _ h => h) (Or.inl ⟨by rfl, ?_⟩) ?_
    · intro w'
      go_simp
      try with_reducible rfl
    try simp [Act.put]
    refine wpAny_take (i := 7) (v := .pointer (some ⟨g, 0, none⟩)) rfl (by kernel_rfl) (by kernel_rfl) (by kernel_rfl) (fun _ _ _ h => h) (Or.inl ⟨by rfl, ?_⟩) ?_
    · intro w'
      go_simp
      try with_reducible rfl
    try simp [Act.put]
    refine wpAny_ready (rs := [0, 2, 10]) (by kernel_rfl) (by simp) ?_
    refine AllReady.cons rfl (fun K hK => ?_) (AllReady.cons rfl (fun K hK => ?_) (AllReady.cons rfl (fun K hK => ?_) (AllReady.nil)))
    · skip
      have hKK := hK
      clear hK
      go_simp
      have D2 := hide ((unhide DD).up (allocB WX (.cells #[.int .i64 1, .int .i64 2, .int .i64 2, .int .i64 2, .int .i64 3] 3)))
      have X3 := hide ((unhide XX).up (allocB WX (.cells #[.int .i64 1, .int .i64 2, .int .i64 2, .int .i64 2, .int .i64 3] 3)))
      have L4 := hide (Ks.new WX)
      have HGB7 := hide (show WX.heap.size ≠ g from by have := (unhide DD).lt; have := (unhide DD).size; omega)
      refine hKK _ _ ?_
      clear hKK K
      generalize WX.alloc (.cells #[.int .i64 1, .int .i64 2, .int .i64 2, .int .i64 2, .int .i64 3] 3) = W1 at *
      generalize WX.heap.size = gb5 at *
      clear DD XX
      try simp [Act.put]
      refine wpAny_ready (rs := [2, 10]) (by kernel_rfl) (by simp) ?_
      refine AllReady.cons rfl (fun K hK => ?_) (AllReady.cons rfl (fun K hK => ?_) (AllReady.nil))
      · skip
        have hKK := hK
        clear hK
        go_simp
        refine (pick_rdy base g (N + 0) 5 w0 W1 (by omega) (by omega) (by omega) (unhide D2)).mono ?_
        rintro e w8 ⟨v12, rfl, hv12, D9, T10⟩
        have X11 := hide ((unhide X3).turn (unhide T10) (by have := unhide HZ; simp; omega))
        have L13 := hide ((unhide L4).turn (unhide T10) (unhide HGB7))
        refine hKK _ _ ?_
        clear hKK K
        clear D2 X3 L4 T10
        try simp [Act.put]
        have hS : w8.cell? ⟨gb5, v12, none⟩ = some (.int .i64 (kF33 v12)) := (unhide L13).2 v12 (by omega)
        refine wpAny_of_held (S := fun X : World => X.cell? ⟨gb5, v12, none⟩ = some (.int .i64 (kF33 v12))) _ _ _ _ ?_
        refine wpAnyH_take (i := 3) (v := .pointer (some ⟨gb5, v12, none⟩)) rfl (by kernel_rfl) (by kernel_rfl) (by kernel_rfl) (fun _ _ _ h => h) (Or.inl ⟨by rfl, ?_⟩) hS ?_
        · intro X hX
          clear hS
          go_simp
          try with_reducible rfl
          try (rw [IntKind.wrap_i64]; omega)
        try simp [Act.put]
        refine wpAnyH_take (i := 4) (v := .int .i64 (kF33 v12)) rfl (by kernel_rfl) (by kernel_rfl) (by kernel_rfl) (fun _ _ _ h => h) (Or.inl ⟨by rfl, ?_⟩) hS ?_
        · intro X hX
          clear hS
          go_simp
          try with_reducible rfl
          try (rw [IntKind.wrap_i64]; omega)
        try simp [Act.put]
        refine wpAnyH_ready (rs := [6, 10]) (by kernel_rfl) (by simp) ?_
        refine AllReadyH.cons rfl (fun K hK => ?_) (AllReadyH.cons rfl (fun K hK => ?_) (AllReadyH.nil))
        · skip
          go_simp
          refine (pick_rdy base g (N + 1) 10 w0 w8 (by omega) (by omega) (by omega) (unhide D9)).mono ?_
          rintro e w14 ⟨v18, rfl, hv18, D15, T16⟩
          have X17 := hide ((unhide X11).turn (unhide T16) (by have := unhide HZ; simp; omega))
          have L19 := hide ((unhide L13).turn (unhide T16) (unhide HGB7))
          have hS2 := (unhide L19).2 v12 (by omega)
          refine hK.out _ _ hS2 ?_
          clear hK K hS hS2
          intro hS
          clear D9 X11 L13 T16
          try simp [Act.put]
          refine wpAnyH_ready (rs := [8, 10]) (by kernel_rfl) (by simp) ?_
          refine AllReadyH.cons rfl (fun K hK => ?_) (AllReadyH.cons rfl (fun K hK => ?_) (AllReadyH.nil))
          · skip
            go_simp
            refine (l33Name_any base g (N + 2) w0 w14 (by omega) (unhide D15)).mono ?_
            rintro e w20 ⟨nm24, rfl, HNM25, D21, T22⟩
            have X23 := hide ((unhide X17).turn (unhide T22) (by have := unhide HZ; simp; omega))
            have L26 := hide ((unhide L19).turn (unhide T22) (unhide HGB7))
            have hS2 := (unhide L26).2 v12 (by omega)
            refine hK.out _ _ hS2 ?_
            clear hK K hS hS2
            intro hS
            clear D15 X17 L19 T22
            try simp [Act.put]
            refine wpAnyH_take (i := 9) (v := .agg #[.int .i64 (kF33 v12), .int .i64 (v18 : Int), .int .i64 0, .string nm24, .int .i64 0, .slice none 0 0]) rfl (by kernel_rfl) (by kernel_rfl) (by kernel_rfl) (fun _ _ _ h => h) (Or.inl ⟨by rfl, ?_⟩) hS ?_
            · intro X hX
              clear hS
              go_simp
              try with_reducible rfl
              try (rw [IntKind.wrap_i64]; omega)
            try simp [Act.put]
            refine wpAnyH_ready (rs := [10]) (by kernel_rfl) (by simp) ?_
            refine AllReadyH.cons rfl (fun K hK => ?_) (AllReadyH.nil)
            go_simp
            have D28 := hide ((unhide D21).up (allocB w20 (.cells #[.int .i64 0, .int .i64 0, .int .i64 0, .string ⟨#[]⟩, .int .i64 0, .slice none 0 0] 24)))
            have X29 := hide ((unhide X23).up (allocB w20 (.cells #[.int .i64 0, .int .i64 0, .int .i64 0, .string ⟨#[]⟩, .int .i64 0, .slice none 0 0] 24)))
            have L30 := hide ((unhide L26).up (allocB w20 (.cells #[.int .i64 0, .int .i64 0, .int .i64 0, .string ⟨#[]⟩, .int .i64 0, .slice none 0 0] 24)))
            have BX31 := hide (show BoxF (w20.alloc (.cells #[.int .i64 0, .int .i64 0, .int .i64 0, .string ⟨#[]⟩, .int .i64 0, .slice none 0 0] 24)) w20.heap.size zero6 from boxF_new w20 zero6 24)
            have HGA33 := hide (show w.heap.size < w20.heap.size from (unhide X23).1.1)
            have HNE34 := hide (show gb5 ≠ w20.heap.size from by have := (unhide L26).1; omega)
            have hS2 := (unhide L30).2 v12 (by omega)
            refine hK.out _ _ hS2 ?_
            clear hK K hS hS2
            intro hS
            generalize w20.alloc (.cells #[.int .i64 0, .int .i64 0, .int .i64 0, .string ⟨#[]⟩, .int .i64 0, .slice none 0 0] 24) = W27 at *
            generalize w20.heap.size = ga32 at *
            clear D21 X23 L26
            try simp [Act.put]
            obtain ⟨⟨q0, q1, q2, q3, q4, q5⟩, f0, f1, f2, f3, f4, f5⟩ := six33 (unhide BX31)
            have M9 := hide (SSt.make (unhide BX31) (unhide X29) (unhide HGA33) (unhide D28) (unhide HS0) (kF33 v12) (v18 : Int) nm24 (kF33_fit _) (by omega) (unhide HNM25))
            have HS9 := hide (((unhide L30).2 v12 (by omega)))
            have HNE := hide (show gb5 ≠ ga32 from unhide HNE34)
            refine wpAnyH_ready (rs := [11]) (by kernel_rfl) (by simp) ?_
            refine AllReadyH.cons rfl (fun K hK => ?_) AllReadyH.nil
            go_simp
            refine hK.out _ _ (far33 (unhide HNE) hS) ?_
            clear hK K
            intro hS9
            refine wpAnyH_done (by kernel_rfl) ?_ _
            clear hS9 hS HS9 q0 q1 q2 q3 q4 q5 f0 f1 f2 f3 f4 f5
            go_wp2_with fail
            go_meet
            exact ⟨ga32, rfl, M9⟩
          · skip
            go_simp
            have D36 := hide ((unhide D15).up (allocB w14 (.cells #[.int .i64 0, .int .i64 0, .int .i64 0, .string ⟨#[]⟩, .int .i64 0, .slice none 0 0] 24)))
            have X37 := hide ((unhide X17).up (allocB w14 (.cells #[.int .i64 0, .int .i64 0, .int .i64 0, .string ⟨#[]⟩, .int .i64 0, .slice none 0 0] 24)))
            have L38 := hide ((unhide L19).up (allocB w14 (.cells #[.int .i64 0, .int .i64 0, .int .i64 0, .string ⟨#[]⟩, .int .i64 0, .slice none 0 0] 24)))
            have BX39 := hide (show BoxF (w14.alloc (.cells #[.int .i64 0, .int .i64 0, .int .i64 0, .string ⟨#[]⟩, .int .i64 0, .slice none 0 0] 24)) w14.heap.size zero6 from boxF_new w14 zero6 24)
            have HGA41 := hide (show w.heap.size < w14.heap.size from (unhide X17).1.1)
            have HNE42 := hide (show gb5 ≠ w14.heap.size from by have := (unhide L19).1; omega)
            have hS2 := (unhide L38).2 v12 (by omega)
            refine hK.out _ _ hS2 ?_
            clear hK K hS hS2
            intro hS
            generalize w14.alloc (.cells #[.int .i64 0, .int .i64 0, .int .i64 0, .string ⟨#[]⟩, .int .i64 0, .slice none 0 0] 24) = W35 at *
            generalize w14.heap.size = ga40 at *
            clear D15 X17 L19
            try simp [Act.put]
            refine wpAnyH_ready (rs := [8]) (by kernel_rfl) (by simp) ?_
            refine AllReadyH.cons rfl (fun K hK => ?_) (AllReadyH.nil)
            go_simp
            refine (l33Name_any base g (N + 2) w0 W35 (by omega) (unhide D36)).mono ?_
            rintro e w43 ⟨nm47, rfl, HNM48, D44, T45⟩
            have X46 := hide ((unhide X37).turn (unhide T45) (by have := unhide HZ; simp; omega))
            have BX49 := hide ((unhide BX39).turn (unhide T45) (by have := unhide HZ; have := unhide HGA41; simp; omega))
            have L50 := hide ((unhide L38).turn (unhide T45) (unhide HGB7))
            have hS2 := (unhide L50).2 v12 (by omega)
            refine hK.out _ _ hS2 ?_
            clear hK K hS hS2
            intro hS
            clear D36 X37 L38 BX39 T45
            try simp [Act.put]
            refine wpAnyH_take (i := 9) (v := .agg #[.int .i64 (kF33 v12), .int .i64 (v18 : Int), .int .i64 0, .string nm47, .int .i64 0, .slice none 0 0]) rfl (by kernel_rfl) (by kernel_rfl) (by kernel_rfl) (fun _ _ _ h => h) (Or.inl ⟨by rfl, ?_⟩) hS ?_
            · intro X hX
              clear hS
              go_simp
              try with_reducible rfl
              try (rw [IntKind.wrap_i64]; omega)
            try simp [Act.put]
            obtain ⟨⟨q0, q1, q2, q3, q4, q5⟩, f0, f1, f2, f3, f4, f5⟩ := six33 (unhide BX49)
            have M9 := hide (SSt.make (unhide BX49) (unhide X46) (unhide HGA41) (unhide D44) (unhide HS0) (kF33 v12) (v18 : Int) nm47 (kF33_fit _) (by omega) (unhide HNM48))
            have HS9 := hide (((unhide L50).2 v12 (by omega)))
            have HNE := hide (show gb5 ≠ ga40 from unhide HNE42)
            refine wpAnyH_ready (rs := [11]) (by kernel_rfl) (by simp) ?_
            refine AllReadyH.cons rfl (fun K hK => ?_) AllReadyH.nil
            go_simp
            refine hK.out _ _ (far33 (unhide HNE) hS) ?_
            clear hK K
            intro hS9
            refine wpAnyH_done (by kernel_rfl) ?_ _
            clear hS9 hS HS9 q0 q1 q2 q3 q4 q5 f0 f1 f2 f3 f4 f5
            go_wp2_with fail
            go_meet
            exact ⟨ga40, rfl, M9⟩
        · skip
          go_simp
          have D52 := hide ((unhide D9).up (allocB w8 (.cells #[.int .i64 0, .int .i64 0, .int .i64 0, .string ⟨#[]⟩, .int .i64 0, .slice none 0 0] 24)))
          have X53 := hide ((unhide X11).up (allocB w8 (.cells #[.int .i64 0, .int .i64 0, .int .i64 0, .string ⟨#[]⟩, .int .i64 0, .slice none 0 0] 24)))
          have L54 := hide ((unhide L13).up (allocB w8 (.cells #[.int .i64 0, .int .i64 0, .int .i64 0, .string ⟨#[]⟩, .int .i64 0, .slice none 0 0] 24)))
          have BX55 := hide (show BoxF (w8.alloc (.cells #[.int .i64 0, .int .i64 0, .int .i64 0, .string ⟨#[]⟩, .int .i64 0, .slice none 0 0] 24)) w8.heap.size zero6 from boxF_new w8 zero6 24)
          have HGA57 := hide (show w.heap.size < w8.heap.size from (unhide X11).1.1)
          have HNE58 := hide (show gb5 ≠ w8.heap.size from by have := (unhide L13).1; omega)
          have hS2 := (unhide L54).2 v12 (by omega)
          refine hK.out _ _ hS2 ?_
          clear hK K hS hS2
          intro hS
          generalize w8.alloc (.cells #[.int .i64 0, .int .i64 0, .int .i64 0, .string ⟨#[]⟩, .int .i64 0, .slice none 0 0] 24) = W51 at *
          generalize w8.heap.size = ga56 at *
          clear D9 X11 L13
          try simp [Act.put]
          refine wpAnyH_ready (rs := [6]) (by kernel_rfl) (by simp) ?_
          refine AllReadyH.cons rfl (fun K hK => ?_) (AllReadyH.nil)
          go_simp
          refine (pick_rdy base g (N + 1) 10 w0 W51 (by omega) (by omega) (by omega) (unhide D52)).mono ?_
          rintro e w59 ⟨v63, rfl, hv63, D60, T61⟩
          have X62 := hide ((unhide X53).turn (unhide T61) (by have := unhide HZ; simp; omega))
          have BX64 := hide ((unhide BX55).turn (unhide T61) (by have := unhide HZ; have := unhide HGA57; simp; omega))
          have L65 := hide ((unhide L54).turn (unhide T61) (unhide HGB7))
          have hS2 := (unhide L65).2 v12 (by omega)
          refine hK.out _ _ hS2 ?_
          clear hK K hS hS2
          intro hS
          clear D52 X53 L54 BX55 T61
          try simp [Act.put]
          refine wpAnyH_ready (rs := [8]) (by kernel_rfl) (by simp) ?_
          refine AllReadyH.cons rfl (fun K hK => ?_) (AllReadyH.nil)
          go_simp
          refine (l33Name_any base g (N + 2) w0 w59 (by omega) (unhide D60)).mono ?_
          rintro e w66 ⟨nm70, rfl, HNM71, D67, T68⟩
          have X69 := hide ((unhide X62).turn (unhide T68) (by have := unhide HZ; simp; omega))
          have BX72 := hide ((unhide BX64).turn (unhide T68) (by have := unhide HZ; have := unhide HGA57; simp; omega))
          have L73 := hide ((unhide L65).turn (unhide T68) (unhide HGB7))
          have hS2 := (unhide L73).2 v12 (by omega)
          refine hK.out _ _ hS2 ?_
          clear hK K hS hS2
          intro hS
          clear D60 X62 L65 BX64 T68
          try simp [Act.put]
          refine wpAnyH_take (i := 9) (v := .agg #[.int .i64 (kF33 v12), .int .i64 (v63 : Int), .int .i64 0, .string nm70, .int .i64 0, .slice none 0 0]) rfl (by kernel_rfl) (by kernel_rfl) (by kernel_rfl) (fun _ _ _ h => h) (Or.inl ⟨by rfl, ?_⟩) hS ?_
          · intro X hX
            clear hS
            go_simp
            try with_reducible rfl
            try (rw [IntKind.wrap_i64]; omega)
          try simp [Act.put]
          obtain ⟨⟨q0, q1, q2, q3, q4, q5⟩, f0, f1, f2, f3, f4, f5⟩ := six33 (unhide BX72)
          have M9 := hide (SSt.make (unhide BX72) (unhide X69) (unhide HGA57) (unhide D67) (unhide HS0) (kF33 v12) (v63 : Int) nm70 (kF33_fit _) (by omega) (unhide HNM71))
          have HS9 := hide (((unhide L73).2 v12 (by omega)))
          have HNE := hide (show gb5 ≠ ga56 from unhide HNE58)
          refine wpAnyH_ready (rs := [11]) (by kernel_rfl) (by simp) ?_
          refine AllReadyH.cons rfl (fun K hK => ?_) AllReadyH.nil
          go_simp
          refine hK.out _ _ (far33 (unhide HNE) hS) ?_
          clear hK K
          intro hS9
          refine wpAnyH_done (by kernel_rfl) ?_ _
          clear hS9 hS HS9 q0 q1 q2 q3 q4 q5 f0 f1 f2 f3 f4 f5
          go_wp2_with fail
          go_meet
          exact ⟨ga56, rfl, M9⟩
      · skip
        have hKK := hK
        clear hK
        go_simp
        have D75 := hide ((unhide D2).up (allocB W1 (.cells #[.int .i64 0, .int .i64 0, .int .i64 0, .string ⟨#[]⟩, .int .i64 0, .slice none 0 0] 24)))
        have X76 := hide ((unhide X3).up (allocB W1 (.cells #[.int .i64 0, .int .i64 0, .int .i64 0, .string ⟨#[]⟩, .int .i64 0, .slice none 0 0] 24)))
        have L77 := hide ((unhide L4).up (allocB W1 (.cells #[.int .i64 0, .int .i64 0, .int .i64 0, .string ⟨#[]⟩, .int .i64 0, .slice none 0 0] 24)))
        have BX78 := hide (show BoxF (W1.alloc (.cells #[.int .i64 0, .int .i64 0, .int .i64 0, .string ⟨#[]⟩, .int .i64 0, .slice none 0 0] 24)) W1.heap.size zero6 from boxF_new W1 zero6 24)
        have HGA80 := hide (show w.heap.size < W1.heap.size from (unhide X3).1.1)
        have HNE81 := hide (show gb5 ≠ W1.heap.size from by have := (unhide L4).1; omega)
        refine hKK _ _ ?_
        clear hKK K
        generalize W1.alloc (.cells #[.int .i64 0, .int .i64 0, .int .i64 0, .string ⟨#[]⟩, .int .i64 0, .slice none 0 0] 24) = W74 at *
        generalize W1.heap.size = ga79 at *
        clear D2 X3 L4
        try simp [Act.put]
        refine wpAny_ready (rs := [2]) (by kernel_rfl) (by simp) ?_
        refine AllReady.cons rfl (fun K hK => ?_) (AllReady.nil)
        have hKK := hK
        clear hK
        go_simp
        refine (pick_rdy base g (N + 0) 5 w0 W74 (by omega) (by omega) (by omega) (unhide D75)).mono ?_
        rintro e w82 ⟨v86, rfl, hv86, D83, T84⟩
        have X85 := hide ((unhide X76).turn (unhide T84) (by have := unhide HZ; simp; omega))
        have BX87 := hide ((unhide BX78).turn (unhide T84) (by have := unhide HZ; have := unhide HGA80; simp; omega))
        have L88 := hide ((unhide L77).turn (unhide T84) (unhide HGB7))
        refine hKK _ _ ?_
        clear hKK K
        clear D75 X76 L77 BX78 T84
        try simp [Act.put]
        have hS : w82.cell? ⟨gb5, v86, none⟩ = some (.int .i64 (kF33 v86)) := (unhide L88).2 v86 (by omega)
        refine wpAny_of_held (S := fun X : World => X.cell? ⟨gb5, v86, none⟩ = some (.int .i64 (kF33 v86))) _ _ _ _ ?_
        refine wpAnyH_take (i := 3) (v := .pointer (some ⟨gb5, v86, none⟩)) rfl (by kernel_rfl) (by kernel_rfl) (by kernel_rfl) (fun _ _ _ h => h) (Or.inl ⟨by rfl, ?_⟩) hS ?_
        · intro X hX
          clear hS
          go_simp
          try with_reducible rfl
          try (rw [IntKind.wrap_i64]; omega)
        try simp [Act.put]
        refine wpAnyH_take (i := 4) (v := .int .i64 (kF33 v86)) rfl (by kernel_rfl) (by kernel_rfl) (by kernel_rfl) (fun _ _ _ h => h) (Or.inl ⟨by rfl, ?_⟩) hS ?_
        · intro X hX
          clear hS
          go_simp
          try with_reducible rfl
          try (rw [IntKind.wrap_i64]; omega)
        try simp [Act.put]
        refine wpAnyH_ready (rs := [6]) (by kernel_rfl) (by simp) ?_
        refine AllReadyH.cons rfl (fun K hK => ?_) (AllReadyH.nil)
        go_simp
        refine (pick_rdy base g (N + 1) 10 w0 w82 (by omega) (by omega) (by omega) (unhide D83)).mono ?_
        rintro e w89 ⟨v93, rfl, hv93, D90, T91⟩
        have X92 := hide ((unhide X85).turn (unhide T91) (by have := unhide HZ; simp; omega))
        have BX94 := hide ((unhide BX87).turn (unhide T91) (by have := unhide HZ; have := unhide HGA80; simp; omega))
        have L95 := hide ((unhide L88).turn (unhide T91) (unhide HGB7))
        have hS2 := (unhide L95).2 v86 (by omega)
        refine hK.out _ _ hS2 ?_
        clear hK K hS hS2
        intro hS
        clear D83 X85 L88 BX87 T91
        try simp [Act.put]
        refine wpAnyH_ready (rs := [8]) (by kernel_rfl) (by simp) ?_
        refine AllReadyH.cons rfl (fun K hK => ?_) (AllReadyH.nil)
        go_simp
        refine (l33Name_any base g (N + 2) w0 w89 (by omega) (unhide D90)).mono ?_
        rintro e w96 ⟨nm100, rfl, HNM101, D97, T98⟩
        have X99 := hide ((unhide X92).turn (unhide T98) (by have := unhide HZ; simp; omega))
        have BX102 := hide ((unhide BX94).turn (unhide T98) (by have := unhide HZ; have := unhide HGA80; simp; omega))
        have L103 := hide ((unhide L95).turn (unhide T98) (unhide HGB7))
        have hS2 := (unhide L103).2 v86 (by omega)
        refine hK.out _ _ hS2 ?_
        clear hK K hS hS2
        intro hS
        clear D90 X92 L95 BX94 T98
        try simp [Act.put]
        refine wpAnyH_take (i := 9) (v := .agg #[.int .i64 (kF33 v86), .int .i64 (v93 : Int), .int .i64 0, .string nm100, .int .i64 0, .slice none 0 0]) rfl (by kernel_rfl) (by kernel_rfl) (by kernel_rfl) (fun _ _ _ h => h) (Or.inl ⟨by rfl, ?_⟩) hS ?_
        · intro X hX
          clear hS
          go_simp
          try with_reducible rfl
          try (rw [IntKind.wrap_i64]; omega)
        try simp [Act.put]
        obtain ⟨⟨q0, q1, q2, q3, q4, q5⟩, f0, f1, f2, f3, f4, f5⟩ := six33 (unhide BX102)
        have M9 := hide (SSt.make (unhide BX102) (unhide X99) (unhide HGA80) (unhide D97) (unhide HS0) (kF33 v86) (v93 : Int) nm100 (kF33_fit _) (by omega) (unhide HNM101))
        have HS9 := hide (((unhide L103).2 v86 (by omega)))
        have HNE := hide (show gb5 ≠ ga79 from unhide HNE81)
        refine wpAnyH_ready (rs := [11]) (by kernel_rfl) (by simp) ?_
        refine AllReadyH.cons rfl (fun K hK => ?_) AllReadyH.nil
        go_simp
        refine hK.out _ _ (far33 (unhide HNE) hS) ?_
        clear hK K
        intro hS9
        refine wpAnyH_done (by kernel_rfl) ?_ _
        clear hS9 hS HS9 q0 q1 q2 q3 q4 q5 f0 f1 f2 f3 f4 f5
        go_wp2_with fail
        go_meet
        exact ⟨ga79, rfl, M9⟩
    · skip
      have hKK := hK
      clear hK
      go_simp
      refine (pick_rdy base g (N + 0) 5 w0 WX (by omega) (by omega) (by omega) (unhide DD)).mono ?_
      rintro e w104 ⟨v108, rfl, hv108, D105, T106⟩
      have X107 := hide ((unhide XX).turn (unhide T106) (by have := unhide HZ; simp; omega))
      refine hKK _ _ ?_
      clear hKK K
      clear DD XX T106
      try simp [Act.put]
      refine wpAny_ready (rs := [0, 6, 10]) (by kernel_rfl) (by simp) ?_
      refine AllReady.cons rfl (fun K hK => ?_) (AllReady.cons rfl (fun K hK => ?_) (AllReady.cons rfl (fun K hK => ?_) (AllReady.nil)))
      · skip
        have hKK := hK
        clear hK
        go_simp
        have D110 := hide ((unhide D105).up (allocB w104 (.cells #[.int .i64 1, .int .i64 2, .int .i64 2, .int .i64 2, .int .i64 3] 3)))
        have X111 := hide ((unhide X107).up (allocB w104 (.cells #[.int .i64 1, .int .i64 2, .int .i64 2, .int .i64 2, .int .i64 3] 3)))
        have L112 := hide (Ks.new w104)
        have HGB115 := hide (show w104.heap.size ≠ g from by have := (unhide D105).lt; have := (unhide D105).size; omega)
        refine hKK _ _ ?_
        clear hKK K
        generalize w104.alloc (.cells #[.int .i64 1, .int .i64 2, .int .i64 2, .int .i64 2, .int .i64 3] 3) = W109 at *
        generalize w104.heap.size = gb113 at *
        clear D105 X107
        try simp [Act.put]
        have hS : W109.cell? ⟨gb113, v108, none⟩ = some (.int .i64 (kF33 v108)) := (unhide L112).2 v108 (by omega)
        refine wpAny_of_held (S := fun X : World => X.cell? ⟨gb113, v108, none⟩ = some (.int .i64 (kF33 v108))) _ _ _ _ ?_
        refine wpAnyH_take (i := 3) (v := .pointer (some ⟨gb113, v108, none⟩)) rfl (by kernel_rfl) (by kernel_rfl) (by kernel_rfl) (fun _ _ _ h => h) (Or.inl ⟨by rfl, ?_⟩) hS ?_
        · intro X hX
          clear hS
          go_simp
          try with_reducible rfl
          try (rw [IntKind.wrap_i64]; omega)
        try simp [Act.put]
        refine wpAnyH_take (i := 4) (v := .int .i64 (kF33 v108)) rfl (by kernel_rfl) (by kernel_rfl) (by kernel_rfl) (fun _ _ _ h => h) (Or.inl ⟨by rfl, ?_⟩) hS ?_
        · intro X hX
          clear hS
          go_simp
          try with_reducible rfl
          try (rw [IntKind.wrap_i64]; omega)
        try simp [Act.put]
        refine wpAnyH_ready (rs := [6, 10]) (by kernel_rfl) (by simp) ?_
        refine AllReadyH.cons rfl (fun K hK => ?_) (AllReadyH.cons rfl (fun K hK => ?_) (AllReadyH.nil))
        · skip
          go_simp
          refine (pick_rdy base g (N + 1) 10 w0 W109 (by omega) (by omega) (by omega) (unhide D110)).mono ?_
          rintro e w116 ⟨v120, rfl, hv120, D117, T118⟩
          have X119 := hide ((unhide X111).turn (unhide T118) (by have := unhide HZ; simp; omega))
          have L121 := hide ((unhide L112).turn (unhide T118) (unhide HGB115))
          have hS2 := (unhide L121).2 v108 (by omega)
          refine hK.out _ _ hS2 ?_
          clear hK K hS hS2
          intro hS
          clear D110 X111 L112 T118
          try simp [Act.put]
          refine wpAnyH_ready (rs := [8, 10]) (by kernel_rfl) (by simp) ?_
          refine AllReadyH.cons rfl (fun K hK => ?_) (AllReadyH.cons rfl (fun K hK => ?_) (AllReadyH.nil))
          · skip
            go_simp
            refine (l33Name_any base g (N + 2) w0 w116 (by omega) (unhide D117)).mono ?_
            rintro e w122 ⟨nm126, rfl, HNM127, D123, T124⟩
            have X125 := hide ((unhide X119).turn (unhide T124) (by have := unhide HZ; simp; omega))
            have L128 := hide ((unhide L121).turn (unhide T124) (unhide HGB115))
            have hS2 := (unhide L128).2 v108 (by omega)
            refine hK.out _ _ hS2 ?_
            clear hK K hS hS2
            intro hS
            clear D117 X119 L121 T124
            try simp [Act.put]
            refine wpAnyH_take (i := 9) (v := .agg #[.int .i64 (kF33 v108), .int .i64 (v120 : Int), .int .i64 0, .string nm126, .int .i64 0, .slice none 0 0]) rfl (by kernel_rfl) (by kernel_rfl) (by kernel_rfl) (fun _ _ _ h => h) (Or.inl ⟨by rfl, ?_⟩) hS ?_
            · intro X hX
              clear hS
              go_simp
              try with_reducible rfl
              try (rw [IntKind.wrap_i64]; omega)
            try simp [Act.put]
            refine wpAnyH_ready (rs := [10]) (by kernel_rfl) (by simp) ?_
            refine AllReadyH.cons rfl (fun K hK => ?_) (AllReadyH.nil)
            go_simp
            have D130 := hide ((unhide D123).up (allocB w122 (.cells #[.int .i64 0, .int .i64 0, .int .i64 0, .string ⟨#[]⟩, .int .i64 0, .slice none 0 0] 24)))
            have X131 := hide ((unhide X125).up (allocB w122 (.cells #[.int .i64 0, .int .i64 0, .int .i64 0, .string ⟨#[]⟩, .int .i64 0, .slice none 0 0] 24)))
            have L132 := hide ((unhide L128).up (allocB w122 (.cells #[.int .i64 0, .int .i64 0, .int .i64 0, .string ⟨#[]⟩, .int .i64 0, .slice none 0 0] 24)))
            have BX133 := hide (show BoxF (w122.alloc (.cells #[.int .i64 0, .int .i64 0, .int .i64 0, .string ⟨#[]⟩, .int .i64 0, .slice none 0 0] 24)) w122.heap.size zero6 from boxF_new w122 zero6 24)
            have HGA135 := hide (show w.heap.size < w122.heap.size from (unhide X125).1.1)
            have HNE136 := hide (show gb113 ≠ w122.heap.size from by have := (unhide L128).1; omega)
            have hS2 := (unhide L132).2 v108 (by omega)
            refine hK.out _ _ hS2 ?_
            clear hK K hS hS2
            intro hS
            generalize w122.alloc (.cells #[.int .i64 0, .int .i64 0, .int .i64 0, .string ⟨#[]⟩, .int .i64 0, .slice none 0 0] 24) = W129 at *
            generalize w122.heap.size = ga134 at *
            clear D123 X125 L128
            try simp [Act.put]
            obtain ⟨⟨q0, q1, q2, q3, q4, q5⟩, f0, f1, f2, f3, f4, f5⟩ := six33 (unhide BX133)
            have M9 := hide (SSt.make (unhide BX133) (unhide X131) (unhide HGA135) (unhide D130) (unhide HS0) (kF33 v108) (v120 : Int) nm126 (kF33_fit _) (by omega) (unhide HNM127))
            have HS9 := hide (((unhide L132).2 v108 (by omega)))
            have HNE := hide (show gb113 ≠ ga134 from unhide HNE136)
            refine wpAnyH_ready (rs := [11]) (by kernel_rfl) (by simp) ?_
            refine AllReadyH.cons rfl (fun K hK => ?_) AllReadyH.nil
            go_simp
            refine hK.out _ _ (far33 (unhide HNE) hS) ?_
            clear hK K
            intro hS9
            refine wpAnyH_done (by kernel_rfl) ?_ _
            clear hS9 hS HS9 q0 q1 q2 q3 q4 q5 f0 f1 f2 f3 f4 f5
            go_wp2_with fail
            go_meet
            exact ⟨ga134, rfl, M9⟩
          · skip
            go_simp
            have D138 := hide ((unhide D117).up (allocB w116 (.cells #[.int .i64 0, .int .i64 0, .int .i64 0, .string ⟨#[]⟩, .int .i64 0, .slice none 0 0] 24)))
            have X139 := hide ((unhide X119).up (allocB w116 (.cells #[.int .i64 0, .int .i64 0, .int .i64 0, .string ⟨#[]⟩, .int .i64 0, .slice none 0 0] 24)))
            have L140 := hide ((unhide L121).up (allocB w116 (.cells #[.int .i64 0, .int .i64 0, .int .i64 0, .string ⟨#[]⟩, .int .i64 0, .slice none 0 0] 24)))
            have BX141 := hide (show BoxF (w116.alloc (.cells #[.int .i64 0, .int .i64 0, .int .i64 0, .string ⟨#[]⟩, .int .i64 0, .slice none 0 0] 24)) w116.heap.size zero6 from boxF_new w116 zero6 24)
            have HGA143 := hide (show w.heap.size < w116.heap.size from (unhide X119).1.1)
            have HNE144 := hide (show gb113 ≠ w116.heap.size from by have := (unhide L121).1; omega)
            have hS2 := (unhide L140).2 v108 (by omega)
            refine hK.out _ _ hS2 ?_
            clear hK K hS hS2
            intro hS
            generalize w116.alloc (.cells #[.int .i64 0, .int .i64 0, .int .i64 0, .string ⟨#[]⟩, .int .i64 0, .slice none 0 0] 24) = W137 at *
            generalize w116.heap.size = ga142 at *
            clear D117 X119 L121
            try simp [Act.put]
            refine wpAnyH_ready (rs := [8]) (by kernel_rfl) (by simp) ?_
            refine AllReadyH.cons rfl (fun K hK => ?_) (AllReadyH.nil)
            go_simp
            refine (l33Name_any base g (N + 2) w0 W137 (by omega) (unhide D138)).mono ?_
            rintro e w145 ⟨nm149, rfl, HNM150, D146, T147⟩
            have X148 := hide ((unhide X139).turn (unhide T147) (by have := unhide HZ; simp; omega))
            have BX151 := hide ((unhide BX141).turn (unhide T147) (by have := unhide HZ; have := unhide HGA143; simp; omega))
            have L152 := hide ((unhide L140).turn (unhide T147) (unhide HGB115))
            have hS2 := (unhide L152).2 v108 (by omega)
            refine hK.out _ _ hS2 ?_
            clear hK K hS hS2
            intro hS
            clear D138 X139 L140 BX141 T147
            try simp [Act.put]
            refine wpAnyH_take (i := 9) (v := .agg #[.int .i64 (kF33 v108), .int .i64 (v120 : Int), .int .i64 0, .string nm149, .int .i64 0, .slice none 0 0]) rfl (by kernel_rfl) (by kernel_rfl) (by kernel_rfl) (fun _ _ _ h => h) (Or.inl ⟨by rfl, ?_⟩) hS ?_
            · intro X hX
              clear hS
              go_simp
              try with_reducible rfl
              try (rw [IntKind.wrap_i64]; omega)
            try simp [Act.put]
            obtain ⟨⟨q0, q1, q2, q3, q4, q5⟩, f0, f1, f2, f3, f4, f5⟩ := six33 (unhide BX151)
            have M9 := hide (SSt.make (unhide BX151) (unhide X148) (unhide HGA143) (unhide D146) (unhide HS0) (kF33 v108) (v120 : Int) nm149 (kF33_fit _) (by omega) (unhide HNM150))
            have HS9 := hide (((unhide L152).2 v108 (by omega)))
            have HNE := hide (show gb113 ≠ ga142 from unhide HNE144)
            refine wpAnyH_ready (rs := [11]) (by kernel_rfl) (by simp) ?_
            refine AllReadyH.cons rfl (fun K hK => ?_) AllReadyH.nil
            go_simp
            refine hK.out _ _ (far33 (unhide HNE) hS) ?_
            clear hK K
            intro hS9
            refine wpAnyH_done (by kernel_rfl) ?_ _
            clear hS9 hS HS9 q0 q1 q2 q3 q4 q5 f0 f1 f2 f3 f4 f5
            go_wp2_with fail
            go_meet
            exact ⟨ga142, rfl, M9⟩
        · skip
          go_simp
          have D154 := hide ((unhide D110).up (allocB W109 (.cells #[.int .i64 0, .int .i64 0, .int .i64 0, .string ⟨#[]⟩, .int .i64 0, .slice none 0 0] 24)))
          have X155 := hide ((unhide X111).up (allocB W109 (.cells #[.int .i64 0, .int .i64 0, .int .i64 0, .string ⟨#[]⟩, .int .i64 0, .slice none 0 0] 24)))
          have L156 := hide ((unhide L112).up (allocB W109 (.cells #[.int .i64 0, .int .i64 0, .int .i64 0, .string ⟨#[]⟩, .int .i64 0, .slice none 0 0] 24)))
          have BX157 := hide (show BoxF (W109.alloc (.cells #[.int .i64 0, .int .i64 0, .int .i64 0, .string ⟨#[]⟩, .int .i64 0, .slice none 0 0] 24)) W109.heap.size zero6 from boxF_new W109 zero6 24)
          have HGA159 := hide (show w.heap.size < W109.heap.size from (unhide X111).1.1)
          have HNE160 := hide (show gb113 ≠ W109.heap.size from by have := (unhide L112).1; omega)
          have hS2 := (unhide L156).2 v108 (by omega)
          refine hK.out _ _ hS2 ?_
          clear hK K hS hS2
          intro hS
          generalize W109.alloc (.cells #[.int .i64 0, .int .i64 0, .int .i64 0, .string ⟨#[]⟩, .int .i64 0, .slice none 0 0] 24) = W153 at *
          generalize W109.heap.size = ga158 at *
          clear D110 X111 L112
          try simp [Act.put]
          refine wpAnyH_ready (rs := [6]) (by kernel_rfl) (by simp) ?_
          refine AllReadyH.cons rfl (fun K hK => ?_) (AllReadyH.nil)
          go_simp
          refine (pick_rdy base g (N + 1) 10 w0 W153 (by omega) (by omega) (by omega) (unhide D154)).mono ?_
          rintro e w161 ⟨v165, rfl, hv165, D162, T163⟩
          have X164 := hide ((unhide X155).turn (unhide T163) (by have := unhide HZ; simp; omega))
          have BX166 := hide ((unhide BX157).turn (unhide T163) (by have := unhide HZ; have := unhide HGA159; simp; omega))
          have L167 := hide ((unhide L156).turn (unhide T163) (unhide HGB115))
          have hS2 := (unhide L167).2 v108 (by omega)
          refine hK.out _ _ hS2 ?_
          clear hK K hS hS2
          intro hS
          clear D154 X155 L156 BX157 T163
          try simp [Act.put]
          refine wpAnyH_ready (rs := [8]) (by kernel_rfl) (by simp) ?_
          refine AllReadyH.cons rfl (fun K hK => ?_) (AllReadyH.nil)
          go_simp
          refine (l33Name_any base g (N + 2) w0 w161 (by omega) (unhide D162)).mono ?_
          rintro e w168 ⟨nm172, rfl, HNM173, D169, T170⟩
          have X171 := hide ((unhide X164).turn (unhide T170) (by have := unhide HZ; simp; omega))
          have BX174 := hide ((unhide BX166).turn (unhide T170) (by have := unhide HZ; have := unhide HGA159; simp; omega))
          have L175 := hide ((unhide L167).turn (unhide T170) (unhide HGB115))
          have hS2 := (unhide L175).2 v108 (by omega)
          refine hK.out _ _ hS2 ?_
          clear hK K hS hS2
          intro hS
          clear D162 X164 L167 BX166 T170
          try simp [Act.put]
          refine wpAnyH_take (i := 9) (v := .agg #[.int .i64 (kF33 v108), .int .i64 (v165 : Int), .int .i64 0, .string nm172, .int .i64 0, .slice none 0 0]) rfl (by kernel_rfl) (by kernel_rfl) (by kernel_rfl) (fun _ _ _ h => h) (Or.inl ⟨by rfl, ?_⟩) hS ?_
          · intro X hX
            clear hS
            go_simp
            try with_reducible rfl
            try (rw [IntKind.wrap_i64]; omega)
          try simp [Act.put]
          obtain ⟨⟨q0, q1, q2, q3, q4, q5⟩, f0, f1, f2, f3, f4, f5⟩ := six33 (unhide BX174)
          have M9 := hide (SSt.make (unhide BX174) (unhide X171) (unhide HGA159) (unhide D169) (unhide HS0) (kF33 v108) (v165 : Int) nm172 (kF33_fit _) (by omega) (unhide HNM173))
          have HS9 := hide (((unhide L175).2 v108 (by omega)))
          have HNE := hide (show gb113 ≠ ga158 from unhide HNE160)
          refine wpAnyH_ready (rs := [11]) (by kernel_rfl) (by simp) ?_
          refine AllReadyH.cons rfl (fun K hK => ?_) AllReadyH.nil
          go_simp
          refine hK.out _ _ (far33 (unhide HNE) hS) ?_
          clear hK K
          intro hS9
          refine wpAnyH_done (by kernel_rfl) ?_ _
          clear hS9 hS HS9 q0 q1 q2 q3 q4 q5 f0 f1 f2 f3 f4 f5
          go_wp2_with fail
          go_meet
          exact ⟨ga158, rfl, M9⟩
      · skip
        have hKK := hK
        clear hK
        go_simp
        refine (pick_rdy base g (N + 1) 10 w0 w104 (by omega) (by omega) (by omega) (unhide D105)).mono ?_
        rintro e w176 ⟨v180, rfl, hv180, D177, T178⟩
        have X179 := hide ((unhide X107).turn (unhide T178) (by have := unhide HZ; simp; omega))
        refine hKK _ _ ?_
        clear hKK K
        clear D105 X107 T178
        try simp [Act.put]
        refine wpAny_ready (rs := [0, 8, 10]) (by kernel_rfl) (by simp) ?_
        refine AllReady.cons rfl (fun K hK => ?_) (AllReady.cons rfl (fun K hK => ?_) (AllReady.cons rfl (fun K hK => ?_) (AllReady.nil)))
        · skip
          have hKK := hK
          clear hK
          go_simp
          have D182 := hide ((unhide D177).up (allocB w176 (.cells #[.int .i64 1, .int .i64 2, .int .i64 2, .int .i64 2, .int .i64 3] 3)))
          have X183 := hide ((unhide X179).up (allocB w176 (.cells #[.int .i64 1, .int .i64 2, .int .i64 2, .int .i64 2, .int .i64 3] 3)))
          have L184 := hide (Ks.new w176)
          have HGB187 := hide (show w176.heap.size ≠ g from by have := (unhide D177).lt; have := (unhide D177).size; omega)
          refine hKK _ _ ?_
          clear hKK K
          generalize w176.alloc (.cells #[.int .i64 1, .int .i64 2, .int .i64 2, .int .i64 2, .int .i64 3] 3) = W181 at *
          generalize w176.heap.size = gb185 at *
          clear D177 X179
          try simp [Act.put]
          have hS : W181.cell? ⟨gb185, v108, none⟩ = some (.int .i64 (kF33 v108)) := (unhide L184).2 v108 (by omega)
          refine wpAny_of_held (S := fun X : World => X.cell? ⟨gb185, v108, none⟩ = some (.int .i64 (kF33 v108))) _ _ _ _ ?_
          refine wpAnyH_take (i := 3) (v := .pointer (some ⟨gb185, v108, none⟩)) rfl (by kernel_rfl) (by kernel_rfl) (by kernel_rfl) (fun _ _ _ h => h) (Or.inl ⟨by rfl, ?_⟩) hS ?_
          · intro X hX
            clear hS
            go_simp
            try with_reducible rfl
            try (rw [IntKind.wrap_i64]; omega)
          try simp [Act.put]
          refine wpAnyH_take (i := 4) (v := .int .i64 (kF33 v108)) rfl (by kernel_rfl) (by kernel_rfl) (by kernel_rfl) (fun _ _ _ h => h) (Or.inl ⟨by rfl, ?_⟩) hS ?_
          · intro X hX
            clear hS
            go_simp
            try with_reducible rfl
            try (rw [IntKind.wrap_i64]; omega)
          try simp [Act.put]
          refine wpAnyH_ready (rs := [8, 10]) (by kernel_rfl) (by simp) ?_
          refine AllReadyH.cons rfl (fun K hK => ?_) (AllReadyH.cons rfl (fun K hK => ?_) (AllReadyH.nil))
          · skip
            go_simp
            refine (l33Name_any base g (N + 2) w0 W181 (by omega) (unhide D182)).mono ?_
            rintro e w188 ⟨nm192, rfl, HNM193, D189, T190⟩
            have X191 := hide ((unhide X183).turn (unhide T190) (by have := unhide HZ; simp; omega))
            have L194 := hide ((unhide L184).turn (unhide T190) (unhide HGB187))
            have hS2 := (unhide L194).2 v108 (by omega)
            refine hK.out _ _ hS2 ?_
            clear hK K hS hS2
            intro hS
            clear D182 X183 L184 T190
            try simp [Act.put]
            refine wpAnyH_take (i := 9) (v := .agg #[.int .i64 (kF33 v108), .int .i64 (v180 : Int), .int .i64 0, .string nm192, .int .i64 0, .slice none 0 0]) rfl (by kernel_rfl) (by kernel_rfl) (by kernel_rfl) (fun _ _ _ h => h) (Or.inl ⟨by rfl, ?_⟩) hS ?_
            · intro X hX
              clear hS
              go_simp
              try with_reducible rfl
              try (rw [IntKind.wrap_i64]; omega)
            try simp [Act.put]
            refine wpAnyH_ready (rs := [10]) (by kernel_rfl) (by simp) ?_
            refine AllReadyH.cons rfl (fun K hK => ?_) (AllReadyH.nil)
            go_simp
            have D196 := hide ((unhide D189).up (allocB w188 (.cells #[.int .i64 0, .int .i64 0, .int .i64 0, .string ⟨#[]⟩, .int .i64 0, .slice none 0 0] 24)))
            have X197 := hide ((unhide X191).up (allocB w188 (.cells #[.int .i64 0, .int .i64 0, .int .i64 0, .string ⟨#[]⟩, .int .i64 0, .slice none 0 0] 24)))
            have L198 := hide ((unhide L194).up (allocB w188 (.cells #[.int .i64 0, .int .i64 0, .int .i64 0, .string ⟨#[]⟩, .int .i64 0, .slice none 0 0] 24)))
            have BX199 := hide (show BoxF (w188.alloc (.cells #[.int .i64 0, .int .i64 0, .int .i64 0, .string ⟨#[]⟩, .int .i64 0, .slice none 0 0] 24)) w188.heap.size zero6 from boxF_new w188 zero6 24)
            have HGA201 := hide (show w.heap.size < w188.heap.size from (unhide X191).1.1)
            have HNE202 := hide (show gb185 ≠ w188.heap.size from by have := (unhide L194).1; omega)
            have hS2 := (unhide L198).2 v108 (by omega)
            refine hK.out _ _ hS2 ?_
            clear hK K hS hS2
            intro hS
            generalize w188.alloc (.cells #[.int .i64 0, .int .i64 0, .int .i64 0, .string ⟨#[]⟩, .int .i64 0, .slice none 0 0] 24) = W195 at *
            generalize w188.heap.size = ga200 at *
            clear D189 X191 L194
            try simp [Act.put]
            obtain ⟨⟨q0, q1, q2, q3, q4, q5⟩, f0, f1, f2, f3, f4, f5⟩ := six33 (unhide BX199)
            have M9 := hide (SSt.make (unhide BX199) (unhide X197) (unhide HGA201) (unhide D196) (unhide HS0) (kF33 v108) (v180 : Int) nm192 (kF33_fit _) (by omega) (unhide HNM193))
            have HS9 := hide (((unhide L198).2 v108 (by omega)))
            have HNE := hide (show gb185 ≠ ga200 from unhide HNE202)
            refine wpAnyH_ready (rs := [11]) (by kernel_rfl) (by simp) ?_
            refine AllReadyH.cons rfl (fun K hK => ?_) AllReadyH.nil
            go_simp
            refine hK.out _ _ (far33 (unhide HNE) hS) ?_
            clear hK K
            intro hS9
            refine wpAnyH_done (by kernel_rfl) ?_ _
            clear hS9 hS HS9 q0 q1 q2 q3 q4 q5 f0 f1 f2 f3 f4 f5
            go_wp2_with fail
            go_meet
            exact ⟨ga200, rfl, M9⟩
          · skip
            go_simp
            have D204 := hide ((unhide D182).up (allocB W181 (.cells #[.int .i64 0, .int .i64 0, .int .i64 0, .string ⟨#[]⟩, .int .i64 0, .slice none 0 0] 24)))
            have X205 := hide ((unhide X183).up (allocB W181 (.cells #[.int .i64 0, .int .i64 0, .int .i64 0, .string ⟨#[]⟩, .int .i64 0, .slice none 0 0] 24)))
            have L206 := hide ((unhide L184).up (allocB W181 (.cells #[.int .i64 0, .int .i64 0, .int .i64 0, .string ⟨#[]⟩, .int .i64 0, .slice none 0 0] 24)))
            have BX207 := hide (show BoxF (W181.alloc (.cells #[.int .i64 0, .int .i64 0, .int .i64 0, .string ⟨#[]⟩, .int .i64 0, .slice none 0 0] 24)) W181.heap.size zero6 from boxF_new W181 zero6 24)
            have HGA209 := hide (show w.heap.size < W181.heap.size from (unhide X183).1.1)
            have HNE210 := hide (show gb185 ≠ W181.heap.size from by have := (unhide L184).1; omega)
            have hS2 := (unhide L206).2 v108 (by omega)
            refine hK.out _ _ hS2 ?_
            clear hK K hS hS2
            intro hS
            generalize W181.alloc (.cells #[.int .i64 0, .int .i64 0, .int .i64 0, .string ⟨#[]⟩, .int .i64 0, .slice none 0 0] 24) = W203 at *
            generalize W181.heap.size = ga208 at *
            clear D182 X183 L184
            try simp [Act.put]
            refine wpAnyH_ready (rs := [8]) (by kernel_rfl) (by simp) ?_
            refine AllReadyH.cons rfl (fun K hK => ?_) (AllReadyH.nil)
            go_simp
            refine (l33Name_any base g (N + 2) w0 W203 (by omega) (unhide D204)).mono ?_
            rintro e w211 ⟨nm215, rfl, HNM216, D212, T213⟩
            have X214 := hide ((unhide X205).turn (unhide T213) (by have := unhide HZ; simp; omega))
            have BX217 := hide ((unhide BX207).turn (unhide T213) (by have := unhide HZ; have := unhide HGA209; simp; omega))
            have L218 := hide ((unhide L206).turn (unhide T213) (unhide HGB187))
            have hS2 := (unhide L218).2 v108 (by omega)
            refine hK.out _ _ hS2 ?_
            clear hK K hS hS2
            intro hS
            clear D204 X205 L206 BX207 T213
            try simp [Act.put]
            refine wpAnyH_take (i := 9) (v := .agg #[.int .i64 (kF33 v108), .int .i64 (v180 : Int), .int .i64 0, .string nm215, .int .i64 0, .slice none 0 0]) rfl (by kernel_rfl) (by kernel_rfl) (by kernel_rfl) (fun _ _ _ h => h) (Or.inl ⟨by rfl, ?_⟩) hS ?_
            · intro X hX
              clear hS
              go_simp
              try with_reducible rfl
              try (rw [IntKind.wrap_i64]; omega)
            try simp [Act.put]
            obtain ⟨⟨q0, q1, q2, q3, q4, q5⟩, f0, f1, f2, f3, f4, f5⟩ := six33 (unhide BX217)
            have M9 := hide (SSt.make (unhide BX217) (unhide X214) (unhide HGA209) (unhide D212) (unhide HS0) (kF33 v108) (v180 : Int) nm215 (kF33_fit _) (by omega) (unhide HNM216))
            have HS9 := hide (((unhide L218).2 v108 (by omega)))
            have HNE := hide (show gb185 ≠ ga208 from unhide HNE210)
            refine wpAnyH_ready (rs := [11]) (by kernel_rfl) (by simp) ?_
            refine AllReadyH.cons rfl (fun K hK => ?_) AllReadyH.nil
            go_simp
            refine hK.out _ _ (far33 (unhide HNE) hS) ?_
            clear hK K
            intro hS9
            refine wpAnyH_done (by kernel_rfl) ?_ _
            clear hS9 hS HS9 q0 q1 q2 q3 q4 q5 f0 f1 f2 f3 f4 f5
            go_wp2_with fail
            go_meet
            exact ⟨ga208, rfl, M9⟩
        · skip
          have hKK := hK
          clear hK
          go_simp
          refine (l33Name_any base g (N + 2) w0 w176 (by omega) (unhide D177)).mono ?_
          rintro e w219 ⟨nm223, rfl, HNM224, D220, T221⟩
          have X222 := hide ((unhide X179).turn (unhide T221) (by have := unhide HZ; simp; omega))
          refine hKK _ _ ?_
          clear hKK K
          clear D177 X179 T221
          try simp [Act.put]
          refine wpAny_ready (rs := [0, 10]) (by kernel_rfl) (by simp) ?_
          refine AllReady.cons rfl (fun K hK => ?_) (AllReady.cons rfl (fun K hK => ?_) (AllReady.nil))
          · skip
            have hKK := hK
            clear hK
            go_simp
            have D226 := hide ((unhide D220).up (allocB w219 (.cells #[.int .i64 1, .int .i64 2, .int .i64 2, .int .i64 2, .int .i64 3] 3)))
            have X227 := hide ((unhide X222).up (allocB w219 (.cells #[.int .i64 1, .int .i64 2, .int .i64 2, .int .i64 2, .int .i64 3] 3)))
            have L228 := hide (Ks.new w219)
            have HGB231 := hide (show w219.heap.size ≠ g from by have := (unhide D220).lt; have := (unhide D220).size; omega)
            refine hKK _ _ ?_
            clear hKK K
            generalize w219.alloc (.cells #[.int .i64 1, .int .i64 2, .int .i64 2, .int .i64 2, .int .i64 3] 3) = W225 at *
            generalize w219.heap.size = gb229 at *
            clear D220 X222
            try simp [Act.put]
            have hS : W225.cell? ⟨gb229, v108, none⟩ = some (.int .i64 (kF33 v108)) := (unhide L228).2 v108 (by omega)
            refine wpAny_of_held (S := fun X : World => X.cell? ⟨gb229, v108, none⟩ = some (.int .i64 (kF33 v108))) _ _ _ _ ?_
            refine wpAnyH_take (i := 3) (v := .pointer (some ⟨gb229, v108, none⟩)) rfl (by kernel_rfl) (by kernel_rfl) (by kernel_rfl) (fun _ _ _ h => h) (Or.inl ⟨by rfl, ?_⟩) hS ?_
            · intro X hX
              clear hS
              go_simp
              try with_reducible rfl
              try (rw [IntKind.wrap_i64]; omega)
            try simp [Act.put]
            refine wpAnyH_take (i := 4) (v := .int .i64 (kF33 v108)) rfl (by kernel_rfl) (by kernel_rfl) (by kernel_rfl) (fun _ _ _ h => h) (Or.inl ⟨by rfl, ?_⟩) hS ?_
            · intro X hX
              clear hS
              go_simp
              try with_reducible rfl
              try (rw [IntKind.wrap_i64]; omega)
            try simp [Act.put]
            refine wpAnyH_take (i := 9) (v := .agg #[.int .i64 (kF33 v108), .int .i64 (v180 : Int), .int .i64 0, .string nm223, .int .i64 0, .slice none 0 0]) rfl (by kernel_rfl) (by kernel_rfl) (by kernel_rfl) (fun _ _ _ h => h) (Or.inl ⟨by rfl, ?_⟩) hS ?_
            · intro X hX
              clear hS
              go_simp
              try with_reducible rfl
              try (rw [IntKind.wrap_i64]; omega)
            try simp [Act.put]
            refine wpAnyH_ready (rs := [10]) (by kernel_rfl) (by simp) ?_
            refine AllReadyH.cons rfl (fun K hK => ?_) (AllReadyH.nil)
            go_simp
            have D233 := hide ((unhide D226).up (allocB W225 (.cells #[.int .i64 0, .int .i64 0, .int .i64 0, .string ⟨#[]⟩, .int .i64 0, .slice none 0 0] 24)))
            have X234 := hide ((unhide X227).up (allocB W225 (.cells #[.int .i64 0, .int .i64 0, .int .i64 0, .string ⟨#[]⟩, .int .i64 0, .slice none 0 0] 24)))
            have L235 := hide ((unhide L228).up (allocB W225 (.cells #[.int .i64 0, .int .i64 0, .int .i64 0, .string ⟨#[]⟩, .int .i64 0, .slice none 0 0] 24)))
            have BX236 := hide (show BoxF (W225.alloc (.cells #[.int .i64 0, .int .i64 0, .int .i64 0, .string ⟨#[]⟩, .int .i64 0, .slice none 0 0] 24)) W225.heap.size zero6 from boxF_new W225 zero6 24)
            have HGA238 := hide (show w.heap.size < W225.heap.size from (unhide X227).1.1)
            have HNE239 := hide (show gb229 ≠ W225.heap.size from by have := (unhide L228).1; omega)
            have hS2 := (unhide L235).2 v108 (by omega)
            refine hK.out _ _ hS2 ?_
            clear hK K hS hS2
            intro hS
            generalize W225.alloc (.cells #[.int .i64 0, .int .i64 0, .int .i64 0, .string ⟨#[]⟩, .int .i64 0, .slice none 0 0] 24) = W232 at *
            generalize W225.heap.size = ga237 at *
            clear D226 X227 L228
            try simp [Act.put]
            obtain ⟨⟨q0, q1, q2, q3, q4, q5⟩, f0, f1, f2, f3, f4, f5⟩ := six33 (unhide BX236)
            have M9 := hide (SSt.make (unhide BX236) (unhide X234) (unhide HGA238) (unhide D233) (unhide HS0) (kF33 v108) (v180 : Int) nm223 (kF33_fit _) (by omega) (unhide HNM224))
            have HS9 := hide (((unhide L235).2 v108 (by omega)))
            have HNE := hide (show gb229 ≠ ga237 from unhide HNE239)
            refine wpAnyH_ready (rs := [11]) (by kernel_rfl) (by simp) ?_
            refine AllReadyH.cons rfl (fun K hK => ?_) AllReadyH.nil
            go_simp
            refine hK.out _ _ (far33 (unhide HNE) hS) ?_
            clear hK K
            intro hS9
            refine wpAnyH_done (by kernel_rfl) ?_ _
            clear hS9 hS HS9 q0 q1 q2 q3 q4 q5 f0 f1 f2 f3 f4 f5
            go_wp2_with fail
            go_meet
            exact ⟨ga237, rfl, M9⟩
          · skip
            have hKK := hK
            clear hK
            go_simp
            have D241 := hide ((unhide D220).up (allocB w219 (.cells #[.int .i64 0, .int .i64 0, .int .i64 0, .string ⟨#[]⟩, .int .i64 0, .slice none 0 0] 24)))
            have X242 := hide ((unhide X222).up (allocB w219 (.cells #[.int .i64 0, .int .i64 0, .int .i64 0, .string ⟨#[]⟩, .int .i64 0, .slice none 0 0] 24)))
            have BX243 := hide (show BoxF (w219.alloc (.cells #[.int .i64 0, .int .i64 0, .int .i64 0, .string ⟨#[]⟩, .int .i64 0, .slice none 0 0] 24)) w219.heap.size zero6 from boxF_new w219 zero6 24)
            have HGA245 := hide (show w.heap.size < w219.heap.size from (unhide X222).1.1)
            refine hKK _ _ ?_
            clear hKK K
            generalize w219.alloc (.cells #[.int .i64 0, .int .i64 0, .int .i64 0, .string ⟨#[]⟩, .int .i64 0, .slice none 0 0] 24) = W240 at *
            generalize w219.heap.size = ga244 at *
            clear D220 X222
            try simp [Act.put]
            refine wpAny_ready (rs := [0]) (by kernel_rfl) (by simp) ?_
            refine AllReady.cons rfl (fun K hK => ?_) (AllReady.nil)
            have hKK := hK
            clear hK
            go_simp
            have D247 := hide ((unhide D241).up (allocB W240 (.cells #[.int .i64 1, .int .i64 2, .int .i64 2, .int .i64 2, .int .i64 3] 3)))
            have X248 := hide ((unhide X242).up (allocB W240 (.cells #[.int .i64 1, .int .i64 2, .int .i64 2, .int .i64 2, .int .i64 3] 3)))
            have L249 := hide (Ks.new W240)
            have HGB252 := hide (show W240.heap.size ≠ g from by have := (unhide D241).lt; have := (unhide D241).size; omega)
            have HNE253 := hide (show W240.heap.size ≠ ga244 from by have := (unhide BX243).1.1; omega)
            have BX254 := hide ((unhide BX243).up (allocB W240 (.cells #[.int .i64 1, .int .i64 2, .int .i64 2, .int .i64 2, .int .i64 3] 3)))
            refine hKK _ _ ?_
            clear hKK K
            generalize W240.alloc (.cells #[.int .i64 1, .int .i64 2, .int .i64 2, .int .i64 2, .int .i64 3] 3) = W246 at *
            generalize W240.heap.size = gb250 at *
            clear D241 X242 BX243
            try simp [Act.put]
            have hS : W246.cell? ⟨gb250, v108, none⟩ = some (.int .i64 (kF33 v108)) := (unhide L249).2 v108 (by omega)
            refine wpAny_of_held (S := fun X : World => X.cell? ⟨gb250, v108, none⟩ = some (.int .i64 (kF33 v108))) _ _ _ _ ?_
            refine wpAnyH_take (i := 3) (v := .pointer (some ⟨gb250, v108, none⟩)) rfl (by kernel_rfl) (by kernel_rfl) (by kernel_rfl) (fun _ _ _ h => h) (Or.inl ⟨by rfl, ?_⟩) hS ?_
            · intro X hX
              clear hS
              go_simp
              try with_reducible rfl
              try (rw [IntKind.wrap_i64]; omega)
            try simp [Act.put]
            refine wpAnyH_take (i := 4) (v := .int .i64 (kF33 v108)) rfl (by kernel_rfl) (by kernel_rfl) (by kernel_rfl) (fun _ _ _ h => h) (Or.inl ⟨by rfl, ?_⟩) hS ?_
            · intro X hX
              clear hS
              go_simp
              try with_reducible rfl
              try (rw [IntKind.wrap_i64]; omega)
            try simp [Act.put]
            refine wpAnyH_take (i := 9) (v := .agg #[.int .i64 (kF33 v108), .int .i64 (v180 : Int), .int .i64 0, .string nm223, .int .i64 0, .slice none 0 0]) rfl (by kernel_rfl) (by kernel_rfl) (by kernel_rfl) (fun _ _ _ h => h) (Or.inl ⟨by rfl, ?_⟩) hS ?_
            · intro X hX
              clear hS
              go_simp
              try with_reducible rfl
              try (rw [IntKind.wrap_i64]; omega)
            try simp [Act.put]
            obtain ⟨⟨q0, q1, q2, q3, q4, q5⟩, f0, f1, f2, f3, f4, f5⟩ := six33 (unhide BX254)
            have M9 := hide (SSt.make (unhide BX254) (unhide X248) (unhide HGA245) (unhide D247) (unhide HS0) (kF33 v108) (v180 : Int) nm223 (kF33_fit _) (by omega) (unhide HNM224))
            have HS9 := hide (((unhide L249).2 v108 (by omega)))
            have HNE := hide (show gb250 ≠ ga244 from unhide HNE253)
            refine wpAnyH_ready (rs := [11]) (by kernel_rfl) (by simp) ?_
            refine AllReadyH.cons rfl (fun K hK => ?_) AllReadyH.nil
            go_simp
            refine hK.out _ _ (far33 (unhide HNE) hS) ?_
            clear hK K
            intro hS9
            refine wpAnyH_done (by kernel_rfl) ?_ _
            clear hS9 hS HS9 q0 q1 q2 q3 q4 q5 f0 f1 f2 f3 f4 f5
            go_wp2_with fail
            go_meet
            exact ⟨ga244, rfl, M9⟩
        · skip
          have hKK := hK
          clear hK
          go_simp
          have D256 := hide ((unhide D177).up (allocB w176 (.cells #[.int .i64 0, .int .i64 0, .int .i64 0, .string ⟨#[]⟩, .int .i64 0, .slice none 0 0] 24)))
          have X257 := hide ((unhide X179).up (allocB w176 (.cells #[.int .i64 0, .int .i64 0, .int .i64 0, .string ⟨#[]⟩, .int .i64 0, .slice none 0 0] 24)))
          have BX258 := hide (show BoxF (w176.alloc (.cells #[.int .i64 0, .int .i64 0, .int .i64 0, .string ⟨#[]⟩, .int .i64 0, .slice none 0 0] 24)) w176.heap.size zero6 from boxF_new w176 zero6 24)
          have HGA260 := hide (show w.heap.size < w176.heap.size from (unhide X179).1.1)
          refine hKK _ _ ?_
          clear hKK K
          generalize w176.alloc (.cells #[.int .i64 0, .int .i64 0, .int .i64 0, .string ⟨#[]⟩, .int .i64 0, .slice none 0 0] 24) = W255 at *
          generalize w176.heap.size = ga259 at *
          clear D177 X179
          try simp [Act.put]
          refine wpAny_ready (rs := [0, 8]) (by kernel_rfl) (by simp) ?_
          refine AllReady.cons rfl (fun K hK => ?_) (AllReady.cons rfl (fun K hK => ?_) (AllReady.nil))
          · skip
            have hKK := hK
            clear hK
            go_simp
            have D262 := hide ((unhide D256).up (allocB W255 (.cells #[.int .i64 1, .int .i64 2, .int .i64 2, .int .i64 2, .int .i64 3] 3)))
            have X263 := hide ((unhide X257).up (allocB W255 (.cells #[.int .i64 1, .int .i64 2, .int .i64 2, .int .i64 2, .int .i64 3] 3)))
            have L264 := hide (Ks.new W255)
            have HGB267 := hide (show W255.heap.size ≠ g from by have := (unhide D256).lt; have := (unhide D256).size; omega)
            have HNE268 := hide (show W255.heap.size ≠ ga259 from by have := (unhide BX258).1.1; omega)
            have BX269 := hide ((unhide BX258).up (allocB W255 (.cells #[.int .i64 1, .int .i64 2, .int .i64 2, .int .i64 2, .int .i64 3] 3)))
            refine hKK _ _ ?_
            clear hKK K
            generalize W255.alloc (.cells #[.int .i64 1, .int .i64 2, .int .i64 2, .int .i64 2, .int .i64 3] 3) = W261 at *
            generalize W255.heap.size = gb265 at *
            clear D256 X257 BX258
            try simp [Act.put]
            have hS : W261.cell? ⟨gb265, v108, none⟩ = some (.int .i64 (kF33 v108)) := (unhide L264).2 v108 (by omega)
            refine wpAny_of_held (S := fun X : World => X.cell? ⟨gb265, v108, none⟩ = some (.int .i64 (kF33 v108))) _ _ _ _ ?_
            refine wpAnyH_take (i := 3) (v := .pointer (some ⟨gb265, v108, none⟩)) rfl (by kernel_rfl) (by kernel_rfl) (by kernel_rfl) (fun _ _ _ h => h) (Or.inl ⟨by rfl, ?_⟩) hS ?_
            · intro X hX
              clear hS
              go_simp
              try with_reducible rfl
              try (rw [IntKind.wrap_i64]; omega)
            try simp [Act.put]
            refine wpAnyH_take (i := 4) (v := .int .i64 (kF33 v108)) rfl (by kernel_rfl) (by kernel_rfl) (by kernel_rfl) (fun _ _ _ h => h) (Or.inl ⟨by rfl, ?_⟩) hS ?_
            · intro X hX
              clear hS
              go_simp
              try with_reducible rfl
              try (rw [IntKind.wrap_i64]; omega)
            try simp [Act.put]
            refine wpAnyH_ready (rs := [8]) (by kernel_rfl) (by simp) ?_
            refine AllReadyH.cons rfl (fun K hK => ?_) (AllReadyH.nil)
            go_simp
            refine (l33Name_any base g (N + 2) w0 W261 (by omega) (unhide D262)).mono ?_
            rintro e w270 ⟨nm274, rfl, HNM275, D271, T272⟩
            have X273 := hide ((unhide X263).turn (unhide T272) (by have := unhide HZ; simp; omega))
            have BX276 := hide ((unhide BX269).turn (unhide T272) (by have := unhide HZ; have := unhide HGA260; simp; omega))
            have L277 := hide ((unhide L264).turn (unhide T272) (unhide HGB267))
            have hS2 := (unhide L277).2 v108 (by omega)
            refine hK.out _ _ hS2 ?_
            clear hK K hS hS2
            intro hS
            clear D262 X263 L264 BX269 T272
            try simp [Act.put]
            refine wpAnyH_take (i := 9) (v := .agg #[.int .i64 (kF33 v108), .int .i64 (v180 : Int), .int .i64 0, .string nm274, .int .i64 0, .slice none 0 0]) rfl (by kernel_rfl) (by kernel_rfl) (by kernel_rfl) (fun _ _ _ h => h) (Or.inl ⟨by rfl, ?_⟩) hS ?_
            · intro X hX
              clear hS
              go_simp
              try with_reducible rfl
              try (rw [IntKind.wrap_i64]; omega)
            try simp [Act.put]
            obtain ⟨⟨q0, q1, q2, q3, q4, q5⟩, f0, f1, f2, f3, f4, f5⟩ := six33 (unhide BX276)
            have M9 := hide (SSt.make (unhide BX276) (unhide X273) (unhide HGA260) (unhide D271) (unhide HS0) (kF33 v108) (v180 : Int) nm274 (kF33_fit _) (by omega) (unhide HNM275))
            have HS9 := hide (((unhide L277).2 v108 (by omega)))
            have HNE := hide (show gb265 ≠ ga259 from unhide HNE268)
            refine wpAnyH_ready (rs := [11]) (by kernel_rfl) (by simp) ?_
            refine AllReadyH.cons rfl (fun K hK => ?_) AllReadyH.nil
            go_simp
            refine hK.out _ _ (far33 (unhide HNE) hS) ?_
            clear hK K
            intro hS9
            refine wpAnyH_done (by kernel_rfl) ?_ _
            clear hS9 hS HS9 q0 q1 q2 q3 q4 q5 f0 f1 f2 f3 f4 f5
            go_wp2_with fail
            go_meet
            exact ⟨ga259, rfl, M9⟩
          · skip
            have hKK := hK
            clear hK
            go_simp
            refine (l33Name_any base g (N + 2) w0 W255 (by omega) (unhide D256)).mono ?_
            rintro e w278 ⟨nm282, rfl, HNM283, D279, T280⟩
            have X281 := hide ((unhide X257).turn (unhide T280) (by have := unhide HZ; simp; omega))
            have BX284 := hide ((unhide BX258).turn (unhide T280) (by have := unhide HZ; have := unhide HGA260; simp; omega))
            refine hKK _ _ ?_
            clear hKK K
            clear D256 X257 BX258 T280
            try simp [Act.put]
            refine wpAny_ready (rs := [0]) (by kernel_rfl) (by simp) ?_
            refine AllReady.cons rfl (fun K hK => ?_) (AllReady.nil)
            have hKK := hK
            clear hK
            go_simp
            have D286 := hide ((unhide D279).up (allocB w278 (.cells #[.int .i64 1, .int .i64 2, .int .i64 2, .int .i64 2, .int .i64 3] 3)))
            have X287 := hide ((unhide X281).up (allocB w278 (.cells #[.int .i64 1, .int .i64 2, .int .i64 2, .int .i64 2, .int .i64 3] 3)))
            have L288 := hide (Ks.new w278)
            have HGB291 := hide (show w278.heap.size ≠ g from by have := (unhide D279).lt; have := (unhide D279).size; omega)
            have HNE292 := hide (show w278.heap.size ≠ ga259 from by have := (unhide BX284).1.1; omega)
            have BX293 := hide ((unhide BX284).up (allocB w278 (.cells #[.int .i64 1, .int .i64 2, .int .i64 2, .int .i64 2, .int .i64 3] 3)))
            refine hKK _ _ ?_
            clear hKK K
            generalize w278.alloc (.cells #[.int .i64 1, .int .i64 2, .int .i64 2, .int .i64 2, .int .i64 3] 3) = W285 at *
            generalize w278.heap.size = gb289 at *
            clear D279 X281 BX284
            try simp [Act.put]
            have hS : W285.cell? ⟨gb289, v108, none⟩ = some (.int .i64 (kF33 v108)) := (unhide L288).2 v108 (by omega)
            refine wpAny_of_held (S := fun X : World => X.cell? ⟨gb289, v108, none⟩ = some (.int .i64 (kF33 v108))) _ _ _ _ ?_
            refine wpAnyH_take (i := 3) (v := .pointer (some ⟨gb289, v108, none⟩)) rfl (by kernel_rfl) (by kernel_rfl) (by kernel_rfl) (fun _ _ _ h => h) (Or.inl ⟨by rfl, ?_⟩) hS ?_
            · intro X hX
              clear hS
              go_simp
              try with_reducible rfl
              try (rw [IntKind.wrap_i64]; omega)
            try simp [Act.put]
            refine wpAnyH_take (i := 4) (v := .int .i64 (kF33 v108)) rfl (by kernel_rfl) (by kernel_rfl) (by kernel_rfl) (fun _ _ _ h => h) (Or.inl ⟨by rfl, ?_⟩) hS ?_
            · intro X hX
              clear hS
              go_simp
              try with_reducible rfl
              try (rw [IntKind.wrap_i64]; omega)
            try simp [Act.put]
            refine wpAnyH_take (i := 9) (v := .agg #[.int .i64 (kF33 v108), .int .i64 (v180 : Int), .int .i64 0, .string nm282, .int .i64 0, .slice none 0 0]) rfl (by kernel_rfl) (by kernel_rfl) (by kernel_rfl) (fun _ _ _ h => h) (Or.inl ⟨by rfl, ?_⟩) hS ?_
            · intro X hX
              clear hS
              go_simp
              try with_reducible rfl
              try (rw [IntKind.wrap_i64]; omega)
            try simp [Act.put]
            obtain ⟨⟨q0, q1, q2, q3, q4, q5⟩, f0, f1, f2, f3, f4, f5⟩ := six33 (unhide BX293)
            have M9 := hide (SSt.make (unhide BX293) (unhide X287) (unhide HGA260) (unhide D286) (unhide HS0) (kF33 v108) (v180 : Int) nm282 (kF33_fit _) (by omega) (unhide HNM283))
            have HS9 := hide (((unhide L288).2 v108 (by omega)))
            have HNE := hide (show gb289 ≠ ga259 from unhide HNE292)
            refine wpAnyH_ready (rs := [11]) (by kernel_rfl) (by simp) ?_
            refine AllReadyH.cons rfl (fun K hK => ?_) AllReadyH.nil
            go_simp
            refine hK.out _ _ (far33 (unhide HNE) hS) ?_
            clear hK K
            intro hS9
            refine wpAnyH_done (by kernel_rfl) ?_ _
            clear hS9 hS HS9 q0 q1 q2 q3 q4 q5 f0 f1 f2 f3 f4 f5
            go_wp2_with fail
            go_meet
            exact ⟨ga259, rfl, M9⟩
      · skip
        have hKK := hK
        clear hK
        go_simp
        have D295 := hide ((unhide D105).up (allocB w104 (.cells #[.int .i64 0, .int .i64 0, .int .i64 0, .string ⟨#[]⟩, .int .i64 0, .slice none 0 0] 24)))
        have X296 := hide ((unhide X107).up (allocB w104 (.cells #[.int .i64 0, .int .i64 0, .int .i64 0, .string ⟨#[]⟩, .int .i64 0, .slice none 0 0] 24)))
        have BX297 := hide (show BoxF (w104.alloc (.cells #[.int .i64 0, .int .i64 0, .int .i64 0, .string ⟨#[]⟩, .int .i64 0, .slice none 0 0] 24)) w104.heap.size zero6 from boxF_new w104 zero6 24)
        have HGA299 := hide (show w.heap.size < w104.heap.size from (unhide X107).1.1)
        refine hKK _ _ ?_
        clear hKK K
        generalize w104.alloc (.cells #[.int .i64 0, .int .i64 0, .int .i64 0, .string ⟨#[]⟩, .int .i64 0, .slice none 0 0] 24) = W294 at *
        generalize w104.heap.size = ga298 at *
        clear D105 X107
        try simp [Act.put]
        refine wpAny_ready (rs := [0, 6]) (by kernel_rfl) (by simp) ?_
        refine AllReady.cons rfl (fun K hK => ?_) (AllReady.cons rfl (fun K hK => ?_) (AllReady.nil))
        · skip
          have hKK := hK
          clear hK
          go_simp
          have D301 := hide ((unhide D295).up (allocB W294 (.cells #[.int .i64 1, .int .i64 2, .int .i64 2, .int .i64 2, .int .i64 3] 3)))
          have X302 := hide ((unhide X296).up (allocB W294 (.cells #[.int .i64 1, .int .i64 2, .int .i64 2, .int .i64 2, .int .i64 3] 3)))
          have L303 := hide (Ks.new W294)
          have HGB306 := hide (show W294.heap.size ≠ g from by have := (unhide D295).lt; have := (unhide D295).size; omega)
          have HNE307 := hide (show W294.heap.size ≠ ga298 from by have := (unhide BX297).1.1; omega)
          have BX308 := hide ((unhide BX297).up (allocB W294 (.cells #[.int .i64 1, .int .i64 2, .int .i64 2, .int .i64 2, .int .i64 3] 3)))
          refine hKK _ _ ?_
          clear hKK K
          generalize W294.alloc (.cells #[.int .i64 1, .int .i64 2, .int .i64 2, .int .i64 2, .int .i64 3] 3) = W300 at *
          generalize W294.heap.size = gb304 at *
          clear D295 X296 BX297
          try simp [Act.put]
          have hS : W300.cell? ⟨gb304, v108, none⟩ = some (.int .i64 (kF33 v108)) := (unhide L303).2 v108 (by omega)
          refine wpAny_of_held (S := fun X : World => X.cell? ⟨gb304, v108, none⟩ = some (.int .i64 (kF33 v108))) _ _ _ _ ?_
          refine wpAnyH_take (i := 3) (v := .pointer (some ⟨gb304, v108, none⟩)) rfl (by kernel_rfl) (by kernel_rfl) (by kernel_rfl) (fun _ _ _ h => h) (Or.inl ⟨by rfl, ?_⟩) hS ?_
          · intro X hX
            clear hS
            go_simp
            try with_reducible rfl
            try (rw [IntKind.wrap_i64]; omega)
          try simp [Act.put]
          refine wpAnyH_take (i := 4) (v := .int .i64 (kF33 v108)) rfl (by kernel_rfl) (by kernel_rfl) (by kernel_rfl) (fun _ _ _ h => h) (Or.inl ⟨by rfl, ?_⟩) hS ?_
          · intro X hX
            clear hS
            go_simp
            try with_reducible rfl
            try (rw [IntKind.wrap_i64]; omega)
          try simp [Act.put]
          refine wpAnyH_ready (rs := [6]) (by kernel_rfl) (by simp) ?_
          refine AllReadyH.cons rfl (fun K hK => ?_) (AllReadyH.nil)
          go_simp
          refine (pick_rdy base g (N + 1) 10 w0 W300 (by omega) (by omega) (by omega) (unhide D301)).mono ?_
          rintro e w309 ⟨v313, rfl, hv313, D310, T311⟩
          have X312 := hide ((unhide X302).turn (unhide T311) (by have := unhide HZ; simp; omega))
          have BX314 := hide ((unhide BX308).turn (unhide T311) (by have := unhide HZ; have := unhide HGA299; simp; omega))
          have L315 := hide ((unhide L303).turn (unhide T311) (unhide HGB306))
          have hS2 := (unhide L315).2 v108 (by omega)
          refine hK.out _ _ hS2 ?_
          clear hK K hS hS2
          intro hS
          clear D301 X302 L303 BX308 T311
          try simp [Act.put]
          refine wpAnyH_ready (rs := [8]) (by kernel_rfl) (by simp) ?_
          refine AllReadyH.cons rfl (fun K hK => ?_) (AllReadyH.nil)
          go_simp
          refine (l33Name_any base g (N + 2) w0 w309 (by omega) (unhide D310)).mono ?_
          rintro e w316 ⟨nm320, rfl, HNM321, D317, T318⟩
          have X319 := hide ((unhide X312).turn (unhide T318) (by have := unhide HZ; simp; omega))
          have BX322 := hide ((unhide BX314).turn (unhide T318) (by have := unhide HZ; have := unhide HGA299; simp; omega))
          have L323 := hide ((unhide L315).turn (unhide T318) (unhide HGB306))
          have hS2 := (unhide L323).2 v108 (by omega)
          refine hK.out _ _ hS2 ?_
          clear hK K hS hS2
          intro hS
          clear D310 X312 L315 BX314 T318
          try simp [Act.put]
          refine wpAnyH_take (i := 9) (v := .agg #[.int .i64 (kF33 v108), .int .i64 (v313 : Int), .int .i64 0, .string nm320, .int .i64 0, .slice none 0 0]) rfl (by kernel_rfl) (by kernel_rfl) (by kernel_rfl) (fun _ _ _ h => h) (Or.inl ⟨by rfl, ?_⟩) hS ?_
          · intro X hX
            clear hS
            go_simp
            try with_reducible rfl
            try (rw [IntKind.wrap_i64]; omega)
          try simp [Act.put]
          obtain ⟨⟨q0, q1, q2, q3, q4, q5⟩, f0, f1, f2, f3, f4, f5⟩ := six33 (unhide BX322)
          have M9 := hide (SSt.make (unhide BX322) (unhide X319) (unhide HGA299) (unhide D317) (unhide HS0) (kF33 v108) (v313 : Int) nm320 (kF33_fit _) (by omega) (unhide HNM321))
          have HS9 := hide (((unhide L323).2 v108 (by omega)))
          have HNE := hide (show gb304 ≠ ga298 from unhide HNE307)
          refine wpAnyH_ready (rs := [11]) (by kernel_rfl) (by simp) ?_
          refine AllReadyH.cons rfl (fun K hK => ?_) AllReadyH.nil
          go_simp
          refine hK.out _ _ (far33 (unhide HNE) hS) ?_
          clear hK K
          intro hS9
          refine wpAnyH_done (by kernel_rfl) ?_ _
          clear hS9 hS HS9 q0 q1 q2 q3 q4 q5 f0 f1 f2 f3 f4 f5
          go_wp2_with fail
          go_meet
          exact ⟨ga298, rfl, M9⟩
        · skip
          have hKK := hK
          clear hK
          go_simp
          refine (pick_rdy base g (N + 1) 10 w0 W294 (by omega) (by omega) (by omega) (unhide D295)).mono ?_
          rintro e w324 ⟨v328, rfl, hv328, D325, T326⟩
          have X327 := hide ((unhide X296).turn (unhide T326) (by have := unhide HZ; simp; omega))
          have BX329 := hide ((unhide BX297).turn (unhide T326) (by have := unhide HZ; have := unhide HGA299; simp; omega))
          refine hKK _ _ ?_
          clear hKK K
          clear D295 X296 BX297 T326
          try simp [Act.put]
          refine wpAny_ready (rs := [0, 8]) (by kernel_rfl) (by simp) ?_
          refine AllReady.cons rfl (fun K hK => ?_) (AllReady.cons rfl (fun K hK => ?_) (AllReady.nil))
          · skip
            have hKK := hK
            clear hK
            go_simp
            have D331 := hide ((unhide D325).up (allocB w324 (.cells #[.int .i64 1, .int .i64 2, .int .i64 2, .int .i64 2, .int .i64 3] 3)))
            have X332 := hide ((unhide X327).up (allocB w324 (.cells #[.int .i64 1, .int .i64 2, .int .i64 2, .int .i64 2, .int .i64 3] 3)))
            have L333 := hide (Ks.new w324)
            have HGB336 := hide (show w324.heap.size ≠ g from by have := (unhide D325).lt; have := (unhide D325).size; omega)
            have HNE337 := hide (show w324.heap.size ≠ ga298 from by have := (unhide BX329).1.1; omega)
            have BX338 := hide ((unhide BX329).up (allocB w324 (.cells #[.int .i64 1, .int .i64 2, .int .i64 2, .int .i64 2, .int .i64 3] 3)))
            refine hKK _ _ ?_
            clear hKK K
            generalize w324.alloc (.cells #[.int .i64 1, .int .i64 2, .int .i64 2, .int .i64 2, .int .i64 3] 3) = W330 at *
            generalize w324.heap.size = gb334 at *
            clear D325 X327 BX329
            try simp [Act.put]
            have hS : W330.cell? ⟨gb334, v108, none⟩ = some (.int .i64 (kF33 v108)) := (unhide L333).2 v108 (by omega)
            refine wpAny_of_held (S := fun X : World => X.cell? ⟨gb334, v108, none⟩ = some (.int .i64 (kF33 v108))) _ _ _ _ ?_
            refine wpAnyH_take (i := 3) (v := .pointer (some ⟨gb334, v108, none⟩)) rfl (by kernel_rfl) (by kernel_rfl) (by kernel_rfl) (fun _ _ _ h => h) (Or.inl ⟨by rfl, ?_⟩) hS ?_
            · intro X hX
              clear hS
              go_simp
              try with_reducible rfl
              try (rw [IntKind.wrap_i64]; omega)
            try simp [Act.put]
            refine wpAnyH_take (i := 4) (v := .int .i64 (kF33 v108)) rfl (by kernel_rfl) (by kernel_rfl) (by kernel_rfl) (fun _ _ _ h => h) (Or.inl ⟨by rfl, ?_⟩) hS ?_
            · intro X hX
              clear hS
              go_simp
              try with_reducible rfl
              try (rw [IntKind.wrap_i64]; omega)
            try simp [Act.put]
            refine wpAnyH_ready (rs := [8]) (by kernel_rfl) (by simp) ?_
            refine AllReadyH.cons rfl (fun K hK => ?_) (AllReadyH.nil)
            go_simp
            refine (l33Name_any base g (N + 2) w0 W330 (by omega) (unhide D331)).mono ?_
            rintro e w339 ⟨nm343, rfl, HNM344, D340, T341⟩
            have X342 := hide ((unhide X332).turn (unhide T341) (by have := unhide HZ; simp; omega))
            have BX345 := hide ((unhide BX338).turn (unhide T341) (by have := unhide HZ; have := unhide HGA299; simp; omega))
            have L346 := hide ((unhide L333).turn (unhide T341) (unhide HGB336))
            have hS2 := (unhide L346).2 v108 (by omega)
            refine hK.out _ _ hS2 ?_
            clear hK K hS hS2
            intro hS
            clear D331 X332 L333 BX338 T341
            try simp [Act.put]
            refine wpAnyH_take (i := 9) (v := .agg #[.int .i64 (kF33 v108), .int .i64 (v328 : Int), .int .i64 0, .string nm343, .int .i64 0, .slice none 0 0]) rfl (by kernel_rfl) (by kernel_rfl) (by kernel_rfl) (fun _ _ _ h => h) (Or.inl ⟨by rfl, ?_⟩) hS ?_
            · intro X hX
              clear hS
              go_simp
              try with_reducible rfl
              try (rw [IntKind.wrap_i64]; omega)
            try simp [Act.put]
            obtain ⟨⟨q0, q1, q2, q3, q4, q5⟩, f0, f1, f2, f3, f4, f5⟩ := six33 (unhide BX345)
            have M9 := hide (SSt.make (unhide BX345) (unhide X342) (unhide HGA299) (unhide D340) (unhide HS0) (kF33 v108) (v328 : Int) nm343 (kF33_fit _) (by omega) (unhide HNM344))
            have HS9 := hide (((unhide L346).2 v108 (by omega)))
            have HNE := hide (show gb334 ≠ ga298 from unhide HNE337)
            refine wpAnyH_ready (rs := [11]) (by kernel_rfl) (by simp) ?_
            refine AllReadyH.cons rfl (fun K hK => ?_) AllReadyH.nil
            go_simp
            refine hK.out _ _ (far33 (unhide HNE) hS) ?_
            clear hK K
            intro hS9
            refine wpAnyH_done (by kernel_rfl) ?_ _
            clear hS9 hS HS9 q0 q1 q2 q3 q4 q5 f0 f1 f2 f3 f4 f5
            go_wp2_with fail
            go_meet
            exact ⟨ga298, rfl, M9⟩
          · skip
            have hKK := hK
            clear hK
            go_simp
            refine (l33Name_any base g (N + 2) w0 w324 (by omega) (unhide D325)).mono ?_
            rintro e w347 ⟨nm351, rfl, HNM352, D348, T349⟩
            have X350 := hide ((unhide X327).turn (unhide T349) (by have := unhide HZ; simp; omega))
            have BX353 := hide ((unhide BX329).turn (unhide T349) (by have := unhide HZ; have := unhide HGA299; simp; omega))
            refine hKK _ _ ?_
            clear hKK K
            clear D325 X327 BX329 T349
            try simp [Act.put]
            refine wpAny_ready (rs := [0]) (by kernel_rfl) (by simp) ?_
            refine AllReady.cons rfl (fun K hK => ?_) (AllReady.nil)
            have hKK := hK
            clear hK
            go_simp
            have D355 := hide ((unhide D348).up (allocB w347 (.cells #[.int .i64 1, .int .i64 2, .int .i64 2, .int .i64 2, .int .i64 3] 3)))
            have X356 := hide ((unhide X350).up (allocB w347 (.cells #[.int .i64 1, .int .i64 2, .int .i64 2, .int .i64 2, .int .i64 3] 3)))
            have L357 := hide (Ks.new w347)
            have HGB360 := hide (show w347.heap.size ≠ g from by have := (unhide D348).lt; have := (unhide D348).size; omega)
            have HNE361 := hide (show w347.heap.size ≠ ga298 from by have := (unhide BX353).1.1; omega)
            have BX362 := hide ((unhide BX353).up (allocB w347 (.cells #[.int .i64 1, .int .i64 2, .int .i64 2, .int .i64 2, .int .i64 3] 3)))
            refine hKK _ _ ?_
            clear hKK K
            generalize w347.alloc (.cells #[.int .i64 1, .int .i64 2, .int .i64 2, .int .i64 2, .int .i64 3] 3) = W354 at *
            generalize w347.heap.size = gb358 at *
            clear D348 X350 BX353
            try simp [Act.put]
            have hS : W354.cell? ⟨gb358, v108, none⟩ = some (.int .i64 (kF33 v108)) := (unhide L357).2 v108 (by omega)
            refine wpAny_of_held (S := fun X : World => X.cell? ⟨gb358, v108, none⟩ = some (.int .i64 (kF33 v108))) _ _ _ _ ?_
            refine wpAnyH_take (i := 3) (v := .pointer (some ⟨gb358, v108, none⟩)) rfl (by kernel_rfl) (by kernel_rfl) (by kernel_rfl) (fun _ _ _ h => h) (Or.inl ⟨by rfl, ?_⟩) hS ?_
            · intro X hX
              clear hS
              go_simp
              try with_reducible rfl
              try (rw [IntKind.wrap_i64]; omega)
            try simp [Act.put]
            refine wpAnyH_take (i := 4) (v := .int .i64 (kF33 v108)) rfl (by kernel_rfl) (by kernel_rfl) (by kernel_rfl) (fun _ _ _ h => h) (Or.inl ⟨by rfl, ?_⟩) hS ?_
            · intro X hX
              clear hS
              go_simp
              try with_reducible rfl
              try (rw [IntKind.wrap_i64]; omega)
            try simp [Act.put]
            refine wpAnyH_take (i := 9) (v := .agg #[.int .i64 (kF33 v108), .int .i64 (v328 : Int), .int .i64 0, .string nm351, .int .i64 0, .slice none 0 0]) rfl (by kernel_rfl) (by kernel_rfl) (by kernel_rfl) (fun _ _ _ h => h) (Or.inl ⟨by rfl, ?_⟩) hS ?_
            · intro X hX
              clear hS
              go_simp
              try with_reducible rfl
              try (rw [IntKind.wrap_i64]; omega)
            try simp [Act.put]
            obtain ⟨⟨q0, q1, q2, q3, q4, q5⟩, f0, f1, f2, f3, f4, f5⟩ := six33 (unhide BX362)
            have M9 := hide (SSt.make (unhide BX362) (unhide X356) (unhide HGA299) (unhide D355) (unhide HS0) (kF33 v108) (v328 : Int) nm351 (kF33_fit _) (by omega) (unhide HNM352))
            have HS9 := hide (((unhide L357).2 v108 (by omega)))
            have HNE := hide (show gb358 ≠ ga298 from unhide HNE361)
            refine wpAnyH_ready (rs := [11]) (by kernel_rfl) (by simp) ?_
            refine AllReadyH.cons rfl (fun K hK => ?_) AllReadyH.nil
            go_simp
            refine hK.out _ _ (far33 (unhide HNE) hS) ?_
            clear hK K
            intro hS9
            refine wpAnyH_done (by kernel_rfl) ?_ _
            clear hS9 hS HS9 q0 q1 q2 q3 q4 q5 f0 f1 f2 f3 f4 f5
            go_wp2_with fail
            go_meet
            exact ⟨ga298, rfl, M9⟩
    · skip
      have hKK := hK
      clear hK
      go_simp
      have D364 := hide ((unhide DD).up (allocB WX (.cells #[.int .i64 0, .int .i64 0, .int .i64 0, .string ⟨#[]⟩, .int .i64 0, .slice none 0 0] 24)))
      have X365 := hide ((unhide XX).up (allocB WX (.cells #[.int .i64 0, .int .i64 0, .int .i64 0, .string ⟨#[]⟩, .int .i64 0, .slice none 0 0] 24)))
      have BX366 := hide (show BoxF (WX.alloc (.cells #[.int .i64 0, .int .i64 0, .int .i64 0, .string ⟨#[]⟩, .int .i64 0, .slice none 0 0] 24)) WX.heap.size zero6 from boxF_new WX zero6 24)
      have HGA368 := hide (show w.heap.size < WX.heap.size from (unhide XX).1.1)
      refine hKK _ _ ?_
      clear hKK K
      generalize WX.alloc (.cells #[.int .i64 0, .int .i64 0, .int .i64 0, .string ⟨#[]⟩, .int .i64 0, .slice none 0 0] 24) = W363 at *
      generalize WX.heap.size = ga367 at *
      clear DD XX
      try simp [Act.put]
      refine wpAny_ready (rs := [0, 2]) (by kernel_rfl) (by simp) ?_
      refine AllReady.cons rfl (fun K hK => ?_) (AllReady.cons rfl (fun K hK => ?_) (AllReady.nil))
      · skip
        have hKK := hK
        clear hK
        go_simp
        have D370 := hide ((unhide D364).up (allocB W363 (.cells #[.int .i64 1, .int .i64 2, .int .i64 2, .int .i64 2, .int .i64 3] 3)))
        have X371 := hide ((unhide X365).up (allocB W363 (.cells #[.int .i64 1, .int .i64 2, .int .i64 2, .int .i64 2, .int .i64 3] 3)))
        have L372 := hide (Ks.new W363)
        have HGB375 := hide (show W363.heap.size ≠ g from by have := (unhide D364).lt; have := (unhide D364).size; omega)
        have HNE376 := hide (show W363.heap.size ≠ ga367 from by have := (unhide BX366).1.1; omega)
        have BX377 := hide ((unhide BX366).up (allocB W363 (.cells #[.int .i64 1, .int .i64 2, .int .i64 2, .int .i64 2, .int .i64 3] 3)))
        refine hKK _ _ ?_
        clear hKK K
        generalize W363.alloc (.cells #[.int .i64 1, .int .i64 2, .int .i64 2, .int .i64 2, .int .i64 3] 3) = W369 at *
        generalize W363.heap.size = gb373 at *
        clear D364 X365 BX366
        try simp [Act.put]
        refine wpAny_ready (rs := [2]) (by kernel_rfl) (by simp) ?_
        refine AllReady.cons rfl (fun K hK => ?_) (AllReady.nil)
        have hKK := hK
        clear hK
        go_simp
        refine (pick_rdy base g (N + 0) 5 w0 W369 (by omega) (by omega) (by omega) (unhide D370)).mono ?_
        rintro e w378 ⟨v382, rfl, hv382, D379, T380⟩
        have X381 := hide ((unhide X371).turn (unhide T380) (by have := unhide HZ; simp; omega))
        have BX383 := hide ((unhide BX377).turn (unhide T380) (by have := unhide HZ; have := unhide HGA368; simp; omega))
        have L384 := hide ((unhide L372).turn (unhide T380) (unhide HGB375))
        refine hKK _ _ ?_
        clear hKK K
        clear D370 X371 L372 BX377 T380
        try simp [Act.put]
        have hS : w378.cell? ⟨gb373, v382, none⟩ = some (.int .i64 (kF33 v382)) := (unhide L384).2 v382 (by omega)
        refine wpAny_of_held (S := fun X : World => X.cell? ⟨gb373, v382, none⟩ = some (.int .i64 (kF33 v382))) _ _ _ _ ?_
        refine wpAnyH_take (i := 3) (v := .pointer (some ⟨gb373, v382, none⟩)) rfl (by kernel_rfl) (by kernel_rfl) (by kernel_rfl) (fun _ _ _ h => h) (Or.inl ⟨by rfl, ?_⟩) hS ?_
        · intro X hX
          clear hS
          go_simp
          try with_reducible rfl
          try (rw [IntKind.wrap_i64]; omega)
        try simp [Act.put]
        refine wpAnyH_take (i := 4) (v := .int .i64 (kF33 v382)) rfl (by kernel_rfl) (by kernel_rfl) (by kernel_rfl) (fun _ _ _ h => h) (Or.inl ⟨by rfl, ?_⟩) hS ?_
        · intro X hX
          clear hS
          go_simp
          try with_reducible rfl
          try (rw [IntKind.wrap_i64]; omega)
        try simp [Act.put]
        refine wpAnyH_ready (rs := [6]) (by kernel_rfl) (by simp) ?_
        refine AllReadyH.cons rfl (fun K hK => ?_) (AllReadyH.nil)
        go_simp
        refine (pick_rdy base g (N + 1) 10 w0 w378 (by omega) (by omega) (by omega) (unhide D379)).mono ?_
        rintro e w385 ⟨v389, rfl, hv389, D386, T387⟩
        have X388 := hide ((unhide X381).turn (unhide T387) (by have := unhide HZ; simp; omega))
        have BX390 := hide ((unhide BX383).turn (unhide T387) (by have := unhide HZ; have := unhide HGA368; simp; omega))
        have L391 := hide ((unhide L384).turn (unhide T387) (unhide HGB375))
        have hS2 := (unhide L391).2 v382 (by omega)
        refine hK.out _ _ hS2 ?_
        clear hK K hS hS2
        intro hS
        clear D379 X381 L384 BX383 T387
        try simp [Act.put]
        refine wpAnyH_ready (rs := [8]) (by kernel_rfl) (by simp) ?_
        refine AllReadyH.cons rfl (fun K hK => ?_) (AllReadyH.nil)
        go_simp
        refine (l33Name_any base g (N + 2) w0 w385 (by omega) (unhide D386)).mono ?_
        rintro e w392 ⟨nm396, rfl, HNM397, D393, T394⟩
        have X395 := hide ((unhide X388).turn (unhide T394) (by have := unhide HZ; simp; omega))
        have BX398 := hide ((unhide BX390).turn (unhide T394) (by have := unhide HZ; have := unhide HGA368; simp; omega))
        have L399 := hide ((unhide L391).turn (unhide T394) (unhide HGB375))
        have hS2 := (unhide L399).2 v382 (by omega)
        refine hK.out _ _ hS2 ?_
        clear hK K hS hS2
        intro hS
        clear D386 X388 L391 BX390 T394
        try simp [Act.put]
        refine wpAnyH_take (i := 9) (v := .agg #[.int .i64 (kF33 v382), .int .i64 (v389 : Int), .int .i64 0, .string nm396, .int .i64 0, .slice none 0 0]) rfl (by kernel_rfl) (by kernel_rfl) (by kernel_rfl) (fun _ _ _ h => h) (Or.inl ⟨by rfl, ?_⟩) hS ?_
        · intro X hX
          clear hS
          go_simp
          try with_reducible rfl
          try (rw [IntKind.wrap_i64]; omega)
        try simp [Act.put]
        obtain ⟨⟨q0, q1, q2, q3, q4, q5⟩, f0, f1, f2, f3, f4, f5⟩ := six33 (unhide BX398)
        have M9 := hide (SSt.make (unhide BX398) (unhide X395) (unhide HGA368) (unhide D393) (unhide HS0) (kF33 v382) (v389 : Int) nm396 (kF33_fit _) (by omega) (unhide HNM397))
        have HS9 := hide (((unhide L399).2 v382 (by omega)))
        have HNE := hide (show gb373 ≠ ga367 from unhide HNE376)
        refine wpAnyH_ready (rs := [11]) (by kernel_rfl) (by simp) ?_
        refine AllReadyH.cons rfl (fun K hK => ?_) AllReadyH.nil
        go_simp
        refine hK.out _ _ (far33 (unhide HNE) hS) ?_
        clear hK K
        intro hS9
        refine wpAnyH_done (by kernel_rfl) ?_ _
        clear hS9 hS HS9 q0 q1 q2 q3 q4 q5 f0 f1 f2 f3 f4 f5
        go_wp2_with fail
        go_meet
        exact ⟨ga367, rfl, M9⟩
      · skip
        have hKK := hK
        clear hK
        go_simp
        refine (pick_rdy base g (N + 0) 5 w0 W363 (by omega) (by omega) (by omega) (unhide D364)).mono ?_
        rintro e w400 ⟨v404, rfl, hv404, D401, T402⟩
        have X403 := hide ((unhide X365).turn (unhide T402) (by have := unhide HZ; simp; omega))
        have BX405 := hide ((unhide BX366).turn (unhide T402) (by have := unhide HZ; have := unhide HGA368; simp; omega))
        refine hKK _ _ ?_
        clear hKK K
        clear D364 X365 BX366 T402
        try simp [Act.put]
        refine wpAny_ready (rs := [0, 6]) (by kernel_rfl) (by simp) ?_
        refine AllReady.cons rfl (fun K hK => ?_) (AllReady.cons rfl (fun K hK => ?_) (AllReady.nil))
        · skip
          have hKK := hK
          clear hK
          go_simp
          have D407 := hide ((unhide D401).up (allocB w400 (.cells #[.int .i64 1, .int .i64 2, .int .i64 2, .int .i64 2, .int .i64 3] 3)))
          have X408 := hide ((unhide X403).up (allocB w400 (.cells #[.int .i64 1, .int .i64 2, .int .i64 2, .int .i64 2, .int .i64 3] 3)))
          have L409 := hide (Ks.new w400)
          have HGB412 := hide (show w400.heap.size ≠ g from by have := (unhide D401).lt; have := (unhide D401).size; omega)
          have HNE413 := hide (show w400.heap.size ≠ ga367 from by have := (unhide BX405).1.1; omega)
          have BX414 := hide ((unhide BX405).up (allocB w400 (.cells #[.int .i64 1, .int .i64 2, .int .i64 2, .int .i64 2, .int .i64 3] 3)))
          refine hKK _ _ ?_
          clear hKK K
          generalize w400.alloc (.cells #[.int .i64 1, .int .i64 2, .int .i64 2, .int .i64 2, .int .i64 3] 3) = W406 at *
          generalize w400.heap.size = gb410 at *
          clear D401 X403 BX405
          try simp [Act.put]
          have hS : W406.cell? ⟨gb410, v404, none⟩ = some (.int .i64 (kF33 v404)) := (unhide L409).2 v404 (by omega)
          refine wpAny_of_held (S := fun X : World => X.cell? ⟨gb410, v404, none⟩ = some (.int .i64 (kF33 v404))) _ _ _ _ ?_
          refine wpAnyH_take (i := 3) (v := .pointer (some ⟨gb410, v404, none⟩)) rfl (by kernel_rfl) (by kernel_rfl) (by kernel_rfl) (fun _ _ _ h => h) (Or.inl ⟨by rfl, ?_⟩) hS ?_
          · intro X hX
            clear hS
            go_simp
            try with_reducible rfl
            try (rw [IntKind.wrap_i64]; omega)
          try simp [Act.put]
          refine wpAnyH_take (i := 4) (v := .int .i64 (kF33 v404)) rfl (by kernel_rfl) (by kernel_rfl) (by kernel_rfl) (fun _ _ _ h => h) (Or.inl ⟨by rfl, ?_⟩) hS ?_
          · intro X hX
            clear hS
            go_simp
            try with_reducible rfl
            try (rw [IntKind.wrap_i64]; omega)
          try simp [Act.put]
          refine wpAnyH_ready (rs := [6]) (by kernel_rfl) (by simp) ?_
          refine AllReadyH.cons rfl (fun K hK => ?_) (AllReadyH.nil)
          go_simp
          refine (pick_rdy base g (N + 1) 10 w0 W406 (by omega) (by omega) (by omega) (unhide D407)).mono ?_
          rintro e w415 ⟨v419, rfl, hv419, D416, T417⟩
          have X418 := hide ((unhide X408).turn (unhide T417) (by have := unhide HZ; simp; omega))
          have BX420 := hide ((unhide BX414).turn (unhide T417) (by have := unhide HZ; have := unhide HGA368; simp; omega))
          have L421 := hide ((unhide L409).turn (unhide T417) (unhide HGB412))
          have hS2 := (unhide L421).2 v404 (by omega)
          refine hK.out _ _ hS2 ?_
          clear hK K hS hS2
          intro hS
          clear D407 X408 L409 BX414 T417
          try simp [Act.put]
          refine wpAnyH_ready (rs := [8]) (by kernel_rfl) (by simp) ?_
          refine AllReadyH.cons rfl (fun K hK => ?_) (AllReadyH.nil)
          go_simp
          refine (l33Name_any base g (N + 2) w0 w415 (by omega) (unhide D416)).mono ?_
          rintro e w422 ⟨nm426, rfl, HNM427, D423, T424⟩
          have X425 := hide ((unhide X418).turn (unhide T424) (by have := unhide HZ; simp; omega))
          have BX428 := hide ((unhide BX420).turn (unhide T424) (by have := unhide HZ; have := unhide HGA368; simp; omega))
          have L429 := hide ((unhide L421).turn (unhide T424) (unhide HGB412))
          have hS2 := (unhide L429).2 v404 (by omega)
          refine hK.out _ _ hS2 ?_
          clear hK K hS hS2
          intro hS
          clear D416 X418 L421 BX420 T424
          try simp [Act.put]
          refine wpAnyH_take (i := 9) (v := .agg #[.int .i64 (kF33 v404), .int .i64 (v419 : Int), .int .i64 0, .string nm426, .int .i64 0, .slice none 0 0]) rfl (by kernel_rfl) (by kernel_rfl) (by kernel_rfl) (fun _ _ _ h => h) (Or.inl ⟨by rfl, ?_⟩) hS ?_
          · intro X hX
            clear hS
            go_simp
            try with_reducible rfl
            try (rw [IntKind.wrap_i64]; omega)
          try simp [Act.put]
          obtain ⟨⟨q0, q1, q2, q3, q4, q5⟩, f0, f1, f2, f3, f4, f5⟩ := six33 (unhide BX428)
          have M9 := hide (SSt.make (unhide BX428) (unhide X425) (unhide HGA368) (unhide D423) (unhide HS0) (kF33 v404) (v419 : Int) nm426 (kF33_fit _) (by omega) (unhide HNM427))
          have HS9 := hide (((unhide L429).2 v404 (by omega)))
          have HNE := hide (show gb410 ≠ ga367 from unhide HNE413)
          refine wpAnyH_ready (rs := [11]) (by kernel_rfl) (by simp) ?_
          refine AllReadyH.cons rfl (fun K hK => ?_) AllReadyH.nil
          go_simp
          refine hK.out _ _ (far33 (unhide HNE) hS) ?_
          clear hK K
          intro hS9
          refine wpAnyH_done (by kernel_rfl) ?_ _
          clear hS9 hS HS9 q0 q1 q2 q3 q4 q5 f0 f1 f2 f3 f4 f5
          go_wp2_with fail
          go_meet
          exact ⟨ga367, rfl, M9⟩
        · skip
          have hKK := hK
          clear hK
          go_simp
          refine (pick_rdy base g (N + 1) 10 w0 w400 (by omega) (by omega) (by omega) (unhide D401)).mono ?_
          rintro e w430 ⟨v434, rfl, hv434, D431, T432⟩
          have X433 := hide ((unhide X403).turn (unhide T432) (by have := unhide HZ; simp; omega))
          have BX435 := hide ((unhide BX405).turn (unhide T432) (by have := unhide HZ; have := unhide HGA368; simp; omega))
          refine hKK _ _ ?_
          clear hKK K
          clear D401 X403 BX405 T432
          try simp [Act.put]
          refine wpAny_ready (rs := [0, 8]) (by kernel_rfl) (by simp) ?_
          refine AllReady.cons rfl (fun K hK => ?_) (AllReady.cons rfl (fun K hK => ?_) (AllReady.nil))
          · skip
            have hKK := hK
            clear hK
            go_simp
            have D437 := hide ((unhide D431).up (allocB w430 (.cells #[.int .i64 1, .int .i64 2, .int .i64 2, .int .i64 2, .int .i64 3] 3)))
            have X438 := hide ((unhide X433).up (allocB w430 (.cells #[.int .i64 1, .int .i64 2, .int .i64 2, .int .i64 2, .int .i64 3] 3)))
            have L439 := hide (Ks.new w430)
            have HGB442 := hide (show w430.heap.size ≠ g from by have := (unhide D431).lt; have := (unhide D431).size; omega)
            have HNE443 := hide (show w430.heap.size ≠ ga367 from by have := (unhide BX435).1.1; omega)
            have BX444 := hide ((unhide BX435).up (allocB w430 (.cells #[.int .i64 1, .int .i64 2, .int .i64 2, .int .i64 2, .int .i64 3] 3)))
            refine hKK _ _ ?_
            clear hKK K
            generalize w430.alloc (.cells #[.int .i64 1, .int .i64 2, .int .i64 2, .int .i64 2, .int .i64 3] 3) = W436 at *
            generalize w430.heap.size = gb440 at *
            clear D431 X433 BX435
            try simp [Act.put]
            have hS : W436.cell? ⟨gb440, v404, none⟩ = some (.int .i64 (kF33 v404)) := (unhide L439).2 v404 (by omega)
            refine wpAny_of_held (S := fun X : World => X.cell? ⟨gb440, v404, none⟩ = some (.int .i64 (kF33 v404))) _ _ _ _ ?_
            refine wpAnyH_take (i := 3) (v := .pointer (some ⟨gb440, v404, none⟩)) rfl (by kernel_rfl) (by kernel_rfl) (by kernel_rfl) (fun _ _ _ h => h) (Or.inl ⟨by rfl, ?_⟩) hS ?_
            · intro X hX
              clear hS
              go_simp
              try with_reducible rfl
              try (rw [IntKind.wrap_i64]; omega)
            try simp [Act.put]
            refine wpAnyH_take (i := 4) (v := .int .i64 (kF33 v404)) rfl (by kernel_rfl) (by kernel_rfl) (by kernel_rfl) (fun _ _ _ h => h) (Or.inl ⟨by rfl, ?_⟩) hS ?_
            · intro X hX
              clear hS
              go_simp
              try with_reducible rfl
              try (rw [IntKind.wrap_i64]; omega)
            try simp [Act.put]
            refine wpAnyH_ready (rs := [8]) (by kernel_rfl) (by simp) ?_
            refine AllReadyH.cons rfl (fun K hK => ?_) (AllReadyH.nil)
            go_simp
            refine (l33Name_any base g (N + 2) w0 W436 (by omega) (unhide D437)).mono ?_
            rintro e w445 ⟨nm449, rfl, HNM450, D446, T447⟩
            have X448 := hide ((unhide X438).turn (unhide T447) (by have := unhide HZ; simp; omega))
            have BX451 := hide ((unhide BX444).turn (unhide T447) (by have := unhide HZ; have := unhide HGA368; simp; omega))
            have L452 := hide ((unhide L439).turn (unhide T447) (unhide HGB442))
            have hS2 := (unhide L452).2 v404 (by omega)
            refine hK.out _ _ hS2 ?_
            clear hK K hS hS2
            intro hS
            clear D437 X438 L439 BX444 T447
            try simp [Act.put]
            refine wpAnyH_take (i := 9) (v := .agg #[.int .i64 (kF33 v404), .int .i64 (v434 : Int), .int .i64 0, .string nm449, .int .i64 0, .slice none 0 0]) rfl (by kernel_rfl) (by kernel_rfl) (by kernel_rfl) (fun _ _ _ h => h) (Or.inl ⟨by rfl, ?_⟩) hS ?_
            · intro X hX
              clear hS
              go_simp
              try with_reducible rfl
              try (rw [IntKind.wrap_i64]; omega)
            try simp [Act.put]
            obtain ⟨⟨q0, q1, q2, q3, q4, q5⟩, f0, f1, f2, f3, f4, f5⟩ := six33 (unhide BX451)
            have M9 := hide (SSt.make (unhide BX451) (unhide X448) (unhide HGA368) (unhide D446) (unhide HS0) (kF33 v404) (v434 : Int) nm449 (kF33_fit _) (by omega) (unhide HNM450))
            have HS9 := hide (((unhide L452).2 v404 (by omega)))
            have HNE := hide (show gb440 ≠ ga367 from unhide HNE443)
            refine wpAnyH_ready (rs := [11]) (by kernel_rfl) (by simp) ?_
            refine AllReadyH.cons rfl (fun K hK => ?_) AllReadyH.nil
            go_simp
            refine hK.out _ _ (far33 (unhide HNE) hS) ?_
            clear hK K
            intro hS9
            refine wpAnyH_done (by kernel_rfl) ?_ _
            clear hS9 hS HS9 q0 q1 q2 q3 q4 q5 f0 f1 f2 f3 f4 f5
            go_wp2_with fail
            go_meet
            exact ⟨ga367, rfl, M9⟩
          · skip
            have hKK := hK
            clear hK
            go_simp
            refine (l33Name_any base g (N + 2) w0 w430 (by omega) (unhide D431)).mono ?_
            rintro e w453 ⟨nm457, rfl, HNM458, D454, T455⟩
            have X456 := hide ((unhide X433).turn (unhide T455) (by have := unhide HZ; simp; omega))
            have BX459 := hide ((unhide BX435).turn (unhide T455) (by have := unhide HZ; have := unhide HGA368; simp; omega))
            refine hKK _ _ ?_
            clear hKK K
            clear D431 X433 BX435 T455
            try simp [Act.put]
            refine wpAny_ready (rs := [0]) (by kernel_rfl) (by simp) ?_
            refine AllReady.cons rfl (fun K hK => ?_) (AllReady.nil)
            have hKK := hK
            clear hK
            go_simp
            have D461 := hide ((unhide D454).up (allocB w453 (.cells #[.int .i64 1, .int .i64 2, .int .i64 2, .int .i64 2, .int .i64 3] 3)))
            have X462 := hide ((unhide X456).up (allocB w453 (.cells #[.int .i64 1, .int .i64 2, .int .i64 2, .int .i64 2, .int .i64 3] 3)))
            have L463 := hide (Ks.new w453)
            have HGB466 := hide (show w453.heap.size ≠ g from by have := (unhide D454).lt; have := (unhide D454).size; omega)
            have HNE467 := hide (show w453.heap.size ≠ ga367 from by have := (unhide BX459).1.1; omega)
            have BX468 := hide ((unhide BX459).up (allocB w453 (.cells #[.int .i64 1, .int .i64 2, .int .i64 2, .int .i64 2, .int .i64 3] 3)))
            refine hKK _ _ ?_
            clear hKK K
            generalize w453.alloc (.cells #[.int .i64 1, .int .i64 2, .int .i64 2, .int .i64 2, .int .i64 3] 3) = W460 at *
            generalize w453.heap.size = gb464 at *
            clear D454 X456 BX459
            try simp [Act.put]
            have hS : W460.cell? ⟨gb464, v404, none⟩ = some (.int .i64 (kF33 v404)) := (unhide L463).2 v404 (by omega)
            refine wpAny_of_held (S := fun X : World => X.cell? ⟨gb464, v404, none⟩ = some (.int .i64 (kF33 v404))) _ _ _ _ ?_
            refine wpAnyH_take (i := 3) (v := .pointer (some ⟨gb464, v404, none⟩)) rfl (by kernel_rfl) (by kernel_rfl) (by kernel_rfl) (fun _ _ _ h => h) (Or.inl ⟨by rfl, ?_⟩) hS ?_
            · intro X hX
              clear hS
              go_simp
              try with_reducible rfl
              try (rw [IntKind.wrap_i64]; omega)
            try simp [Act.put]
            refine wpAnyH_take (i := 4) (v := .int .i64 (kF33 v404)) rfl (by kernel_rfl) (by kernel_rfl) (by kernel_rfl) (fun _ _ _ h => h) (Or.inl ⟨by rfl, ?_⟩) hS ?_
            · intro X hX
              clear hS
              go_simp
              try with_reducible rfl
              try (rw [IntKind.wrap_i64]; omega)
            try simp [Act.put]
            refine wpAnyH_take (i := 9) (v := .agg #[.int .i64 (kF33 v404), .int .i64 (v434 : Int), .int .i64 0, .string nm457, .int .i64 0, .slice none 0 0]) rfl (by kernel_rfl) (by kernel_rfl) (by kernel_rfl) (fun _ _ _ h => h) (Or.inl ⟨by rfl, ?_⟩) hS ?_
            · intro X hX
              clear hS
              go_simp
              try with_reducible rfl
              try (rw [IntKind.wrap_i64]; omega)
            try simp [Act.put]
            obtain ⟨⟨q0, q1, q2, q3, q4, q5⟩, f0, f1, f2, f3, f4, f5⟩ := six33 (unhide BX468)
            have M9 := hide (SSt.make (unhide BX468) (unhide X462) (unhide HGA368) (unhide D461) (unhide HS0) (kF33 v404) (v434 : Int) nm457 (kF33_fit _) (by omega) (unhide HNM458))
            have HS9 := hide (((unhide L463).2 v404 (by omega)))
            have HNE := hide (show gb464 ≠ ga367 from unhide HNE467)
            refine wpAnyH_ready (rs := [11]) (by kernel_rfl) (by simp) ?_
            refine AllReadyH.cons rfl (fun K hK => ?_) AllReadyH.nil
            go_simp
            refine hK.out _ _ (far33 (unhide HNE) hS) ?_
            clear hK K
            intro hS9
            refine wpAnyH_done (by kernel_rfl) ?_ _
            clear hS9 hS HS9 q0 q1 q2 q3 q4 q5 f0 f1 f2 f3 f4 f5
            go_wp2_with fail
            go_meet
            exact ⟨ga367, rfl, M9⟩
  case rest =>
    obtain ⟨gd, rfl, M1⟩ := hcut
    clear X0 D0
    -- to whom
    go_upto_region 2 with fail
    go_cut [] (fun wx => Hid (SSt base g (N + 4) w0 w gd wx))
    case first =>
      obtain ⟨k, f, t, nm, v, a, n, c, ⟨q0, q1, q2, q3, q4, q5⟩, -, hf1⟩ := (unhide M1).cells
      have MD := hide ((unhide M1).up ((Below.refl _ _).drew))
      have hS : wc.drew.cell? ⟨gd, 1, none⟩ = some (.int .i64 f) := q1
      clear q0 q1 q2 q3 q4 q5
      refine wp_region_held_drew (S := fun X : World => X.cell? ⟨gd, 1, none⟩ = some (.int .i64 f)) (by kernel_rfl) hS ?_
      intro hS
      generalize wc.drew = W2 at *
      refine wpAnyH_take (i := 0) (v := .pointer (some ⟨gd, 1, none⟩)) rfl (by kernel_rfl) (by kernel_rfl) (by kernel_rfl) (fun _ _ _ h => h) (Or.inl ⟨by rfl, ?_⟩) hS ?_
      · intro X hX
        clear hS
        go_simp
        try with_reducible rfl
        try (rw [IntKind.wrap_i64]; omega)
      try simp [Act.put]
      refine wpAnyH_take (i := 1) (v := .int .i64 f) rfl (by kernel_rfl) (by kernel_rfl) (by kernel_rfl) (fun _ _ _ h => h) (Or.inl ⟨by rfl, ?_⟩) hS ?_
      · intro X hX
        clear hS
        go_simp
        try with_reducible rfl
        try (rw [IntKind.wrap_i64]; omega)
      try simp [Act.put]
      refine wpAnyH_take (i := 2) (v := .int .i64 (f + 1)) rfl (by kernel_rfl) (by kernel_rfl) (by kernel_rfl) (fun _ _ _ h => h) (Or.inl ⟨by rfl, ?_⟩) hS ?_
      · intro X hX
        clear hS
        go_simp
        try with_reducible rfl
        try (rw [IntKind.wrap_i64]; omega)
      try simp [Act.put]
      refine wpAnyH_take (i := 3) (v := .pointer (some ⟨g, 0, none⟩)) rfl (by kernel_rfl) (by kernel_rfl) (by kernel_rfl) (fun _ _ _ h => h) (Or.inl ⟨by rfl, ?_⟩) hS ?_
      · intro X hX
        clear hS
        go_simp
        try with_reducible rfl
        try (rw [IntKind.wrap_i64]; omega)
      try simp [Act.put]
      refine wpAnyH_ready (rs := [4]) (by kernel_rfl) (by simp) ?_
      refine AllReadyH.cons rfl (fun K hK => ?_) AllReadyH.nil
      go_simp
      refine (pick_rdy base g (N + 3) 9 w0 W2 (by omega) (by omega) (by omega) (unhide MD).rdy).mono ?_
      rintro e w3 ⟨p3, rfl, hp3, D3, T3⟩
      have M3 := hide ((unhide MD).turnG (unhide T3) (unhide D3))
      have hS3 : w3.cell? ⟨gd, 1, none⟩ = some (.int .i64 f) := ((unhide T3).cell (lt_of_cell0 hS) (by have := (unhide MD).ne; simpa using this)).trans hS
      refine hK.out _ _ hS3 ?_
      clear hK K hS hS3 MD D3 T3
      intro hS
      try simp [Act.put]
      refine wpAnyH_take (i := 5) (v := .int .i64 (f + 1 + (p3 : Int))) rfl (by kernel_rfl) (by kernel_rfl) (by kernel_rfl) (fun _ _ _ h => h) (Or.inl ⟨by rfl, ?_⟩) hS ?_
      · intro X hX
        clear hS
        go_simp
        try with_reducible rfl
        try (rw [IntKind.wrap_i64]; omega)
      try simp [Act.put]
      refine wpAnyH_take (i := 6) (v := .int .i64 (Int.tmod (f + 1 + (p3 : Int)) 10)) rfl (by kernel_rfl) (by kernel_rfl) (by kernel_rfl) (fun _ _ _ h => h) (Or.inl ⟨by rfl, ?_⟩) hS ?_
      · intro X hX
        clear hS
        go_simp
        try with_reducible rfl
        try (rw [IntKind.wrap_i64]; omega)
      try simp [Act.put]
      refine wpAnyH_take (i := 7) (v := .pointer (some ⟨gd, 2, none⟩)) rfl (by kernel_rfl) (by kernel_rfl) (by kernel_rfl) (fun _ _ _ h => h) (Or.inl ⟨by rfl, ?_⟩) hS ?_
      · intro X hX
        clear hS
        go_simp
        try with_reducible rfl
        try (rw [IntKind.wrap_i64]; omega)
      try simp [Act.put]
      obtain ⟨k', f', t', nm', v', a', n', c', ⟨q0, q1, q2, q3, q4, q5⟩, ⟨f0, f1, f2, f3, f4, f5⟩, _⟩ := (unhide M3).cells
      have ht := tmod10 (f + 1 + (p3 : Int))
      have M4 := hide ((unhide M3).dst _ ht)
      clear q0 q1 q3 q4 q5 f0 f1 f3 f4 f5
      generalize Int.tmod (f + 1 + (p3 : Int)) 10 = tt at *
      refine wpAnyH_ready (rs := [8]) (by kernel_rfl) (by simp) ?_
      refine AllReadyH.cons rfl (fun K hK => ?_) AllReadyH.nil
      go_simp
      refine hK.out _ _ (far1 hS) ?_
      clear hK K
      intro hS9
      refine wpAnyH_done (by kernel_rfl) ?_ _
      clear hS9 hS q2 f2
      go_wp2_with fail
      go_meet
      exact M4
    case rest =>
    have M5 := hcut
    clear hcut M1
    generalize wc = W5 at *
    obtain ⟨k, f, t, nm, v, a, n, c, ⟨q0, q1, q2, q3, q4, q5⟩, ⟨f0, f1, f2, f3, f4, f5⟩, hf1⟩ := (unhide M5).cells
    -- what it tells
    go_upto_if 24 with fail
    go_cut [] (fun wx => Hid (SSt base g (N + 200) w0 w gd wx))
    case first =>
      by_cases hk : k = 2
      · subst hk
        go_wp2_with fail
        refine (pick_rdy base g (N + 4) 500 w0 W5 (by omega) (by omega) (by omega) (unhide M5).rdy).mono ?_
        rintro e w6 ⟨p6, rfl, hp6, D6, T6⟩
        have M6 := hide ((unhide M5).turnG (unhide T6) (unhide D6))
        have M7 := hide ((unhide M6).val ((p6 : Int) - 100) (by omega))
        clear q0 q1 q2 q3 q4 q5 f0 f1 f2 f3 f4 f5 M5 D6 T6
        obtain ⟨k, f, t, nm, v, a, n, c, ⟨q0, q1, q2, q3, q4, q5⟩, ⟨f0, f1, f2, f3, f4, f5⟩, hf1⟩ := (unhide M6).cells
        go_wp2_with fail
        clear q0 q1 q2 q3 q4 q5 f0 f1 f2 f3 f4 f5 M6
        generalize w6.setCell ⟨gd, 4, none⟩ (.int .i64 ((p6 : Int) - 100)) = W7 at *
        refine (pick_rdy base g (N + 4 + 1) 10 w0 W7 (by omega) (by omega) (by omega) (unhide M7).rdy).mono ?_
        rintro e w8 ⟨p8, rfl, hp8, D8, T8⟩
        have M8 := hide ((unhide M7).turnG (unhide T8) (unhide D8))
        clear M7 D8 T8
        go_upto_if 31 with fail
        go_cut [] (fun wx => Hid (SSt base g (N + 10) w0 w gd wx))
        case first =>
          by_cases hp : p8 = 0
          · subst hp
            have MI := hide ((unhide M8).up (allocB w8 (.cells #[.int .i64 (-9223372036854775808), .int .i64 9223372036854775807, .int .i64 (-1), .int .i64 256] 3)))
            have XI := hide (boxF_new w8 [.int .i64 (-9223372036854775808), .int .i64 9223372036854775807, .int .i64 (-1), .int .i64 256] 3)
            have HZI := hide (show g < w8.heap.size from Nat.lt_of_lt_of_le (unhide M8).rdy.lt (unhide M8).rdy.size)
            simp only [List.toArray] at XI
            clear M8
            go_wp2_with fail
            generalize w8.alloc (.cells #[.int .i64 (-9223372036854775808), .int .i64 9223372036854775807, .int .i64 (-1), .int .i64 256] 3) = WI at *
            generalize w8.heap.size = gi at *
            refine (pick_rdy base g (N + 4 + 1 + 1) 4 w0 WI (by omega) (by omega) (by omega) (unhide MI).rdy).mono ?_
            rintro e w9 ⟨k9, rfl, hk9, D9, T9⟩
            have M9 := hide ((unhide MI).turnG (unhide T9) (unhide D9))
            have X9 := hide ((unhide XI).turn (unhide T9) (by have := unhide HZI; simp; omega))
            clear MI XI D9 T9
            obtain ⟨k, f, t, nm, v, a, n, c, ⟨q0, q1, q2, q3, q4, q5⟩, ⟨f0, f1, f2, f3, f4, f5⟩, hf1⟩ := (unhide M9).cells
            have i0 := (unhide X9).1.at 0 _ rfl
            have i1 := (unhide X9).1.at 1 _ rfl
            have i2 := (unhide X9).1.at 2 _ rfl
            have i3 := (unhide X9).1.at 3 _ rfl
            rcases (show k9 = 0 ∨ k9 = 1 ∨ k9 = 2 ∨ k9 = 3 by omega) with rfl | rfl | rfl | rfl
            · go_wp2_with fail
              go_meet
              exact hide (((unhide M9).val (-9223372036854775808) (by omega)).more (by omega))
            · go_wp2_with fail
              go_meet
              exact hide (((unhide M9).val 9223372036854775807 (by omega)).more (by omega))
            · go_wp2_with fail
              go_meet
              exact hide (((unhide M9).val (-1) (by omega)).more (by omega))
            · go_wp2_with fail
              go_meet
              exact hide (((unhide M9).val 256 (by omega)).more (by omega))
          · have hpb : ((p8 : Int) == 0) = false := by simp; omega
            go_wp2_with fail
            go_meet
            exact hide ((unhide M8).more (by omega))
        case rest =>
          have M9 := hcut
          clear hcut M8
          have HST := hide (l33Stamp_any base g (N + 10) wc wc (by omega) (unhide M9).rdy.self)
          go_wp2_with fail
          refine (unhide HST).mono ?_
          rintro e w10 ⟨a10, n10, c10, vs, rfl, R10, L10, V10, D10, Z10⟩
          have M10 := hide ((unhide M9).turnG (unhide D10).turn ((unhide M9).rdy.on (unhide D10)))
          have M11 := hide ((unhide M9).stamp (a := a10) (n := n10) (c := c10) (unhide D10).turn ((unhide M9).rdy.on (unhide D10)) (VrHi.of_row (unhide R10) (unhide M9).lt' (fun k h1 h2 => (unhide M9).off h1)) (unhide L10) (unhide V10))
          clear R10 L10 V10 D10 Z10 M9 HST
          obtain ⟨k, f, t, nm, v, a, n, c, ⟨q0, q1, q2, q3, q4, q5⟩, ⟨f0, f1, f2, f3, f4, f5⟩, hf1⟩ := (unhide M10).cells
          go_wp2_with fail
          go_meet
          exact hide ((unhide M11).more (by omega))
      · have hkb : (k == 2) = false := by simp; omega
        go_wp2_with fail
        go_meet
        exact hide ((unhide M5).more (by omega))
    case rest =>
    clear q0 q1 q2 q3 q4 q5 f0 f1 f2 f3 f4 f5 M5
    have M12 := hcut
    clear hcut
    go_wp2_with fail
    refine (pick_rdy base g (N + 200) 50 w0 wc (by omega) (by omega) (by omega) (unhide M12).rdy).mono ?_
    rintro e w13 ⟨p, rfl, hp, D13, T13⟩
    have M13 := hide ((unhide M12).turnG (unhide T13) (unhide D13))
    clear M12 D13 T13
    go_upto_block 0 with fail
    go_cut [43, 48, 56, 64, 72, 75, 81, 91] (fun s43 s48 s56 s64 s72 s75 s81 s91 wx => Hid (SSt base g (N + 300) w0 w gd wx))
    case first =>
      by_cases e0 : p = 0
      · subst e0
        obtain ⟨k, f, t, nm, v, a, n, c, ⟨q0, q1, q2, q3, q4, q5⟩, ⟨f0, f1, f2, f3, f4, f5⟩, hf1⟩ := (unhide M13).cells
        go_wp2_with fail
        go_meet
        exact hide (((unhide M13).dst f (by omega)).more (by omega))
      have b0 : ((p : Int) == 0) = false := by simp; omega
      by_cases e1 : p = 1
      · subst e1
        have MI := hide ((unhide M13).up (allocB w13 (.cells #[.int .i64 (-1), .int .i64 10, .int .i64 256] 3)))
        have XI := hide (boxF_new w13 [.int .i64 (-1), .int .i64 10, .int .i64 256] 3)
        have HZI := hide (show g < w13.heap.size from Nat.lt_of_lt_of_le (unhide M13).rdy.lt (unhide M13).rdy.size)
        simp only [List.toArray] at XI
        clear M13
        go_wp2_with fail
        generalize w13.alloc (.cells #[.int .i64 (-1), .int .i64 10, .int .i64 256] 3) = WI at *
        generalize w13.heap.size = gi at *
        refine (pick_rdy base g (N + 200 + 1) 3 w0 WI (by omega) (by omega) (by omega) (unhide MI).rdy).mono ?_
        rintro e w9 ⟨k9, rfl, hk9, D9, T9⟩
        have M9 := hide ((unhide MI).turnG (unhide T9) (unhide D9))
        have X9 := hide ((unhide XI).turn (unhide T9) (by have := unhide HZI; simp; omega))
        clear MI XI D9 T9
        obtain ⟨k, f, t, nm, v, a, n, c, ⟨q0, q1, q2, q3, q4, q5⟩, ⟨f0, f1, f2, f3, f4, f5⟩, hf1⟩ := (unhide M9).cells
        have i0 := (unhide X9).1.at 0 _ rfl
        have i1 := (unhide X9).1.at 1 _ rfl
        have i2 := (unhide X9).1.at 2 _ rfl
        rcases (show k9 = 0 ∨ k9 = 1 ∨ k9 = 2 by omega) with rfl | rfl | rfl
        · go_wp2_with fail
          go_meet
          exact hide (((unhide M9).src (-1) (by omega)).more (by omega))
        · go_wp2_with fail
          go_meet
          exact hide (((unhide M9).src 10 (by omega)).more (by omega))
        · go_wp2_with fail
          go_meet
          exact hide (((unhide M9).src 256 (by omega)).more (by omega))
      have b1 : ((p : Int) == 1) = false := by simp; omega
      by_cases e2 : p = 2
      · subst e2
        have MI := hide ((unhide M13).up (allocB w13 (.cells #[.string ⟨#[]⟩, .string ⟨#[88]⟩, .string ⟨#[97, 98, 99, 100, 101, 102, 103, 104, 105]⟩, .string ⟨#[97, 58, 98]⟩] 9)))
        have XI := hide (boxF_new w13 [.string ⟨#[]⟩, .string ⟨#[88]⟩, .string ⟨#[97, 98, 99, 100, 101, 102, 103, 104, 105]⟩, .string ⟨#[97, 58, 98]⟩] 9)
        have HZI := hide (show g < w13.heap.size from Nat.lt_of_lt_of_le (unhide M13).rdy.lt (unhide M13).rdy.size)
        simp only [List.toArray] at XI
        clear M13
        go_wp2_with fail
        generalize w13.alloc (.cells #[.string ⟨#[]⟩, .string ⟨#[88]⟩, .string ⟨#[97, 98, 99, 100, 101, 102, 103, 104, 105]⟩, .string ⟨#[97, 58, 98]⟩] 9) = WI at *
        generalize w13.heap.size = gi at *
        refine (pick_rdy base g (N + 200 + 1) 4 w0 WI (by omega) (by omega) (by omega) (unhide MI).rdy).mono ?_
        rintro e w9 ⟨k9, rfl, hk9, D9, T9⟩
        have M9 := hide ((unhide MI).turnG (unhide T9) (unhide D9))
        have X9 := hide ((unhide XI).turn (unhide T9) (by have := unhide HZI; simp; omega))
        clear MI XI D9 T9
        obtain ⟨k, f, t, nm, v, a, n, c, ⟨q0, q1, q2, q3, q4, q5⟩, ⟨f0, f1, f2, f3, f4, f5⟩, hf1⟩ := (unhide M9).cells
        have i0 := (unhide X9).1.at 0 _ rfl
        have i1 := (unhide X9).1.at 1 _ rfl
        have i2 := (unhide X9).1.at 2 _ rfl
        have i3 := (unhide X9).1.at 3 _ rfl
        rcases (show k9 = 0 ∨ k9 = 1 ∨ k9 = 2 ∨ k9 = 3 by omega) with rfl | rfl | rfl | rfl
        · go_wp2_with fail
          go_meet
          exact hide (((unhide M9).name ⟨#[]⟩ (by decide)).more (by omega))
        · go_wp2_with fail
          go_meet
          exact hide (((unhide M9).name ⟨#[88]⟩ (by decide)).more (by omega))
        · go_wp2_with fail
          go_meet
          exact hide (((unhide M9).name ⟨#[97, 98, 99, 100, 101, 102, 103, 104, 105]⟩ (by decide)).more (by omega))
        · go_wp2_with fail
          go_meet
          exact hide (((unhide M9).name ⟨#[97, 58, 98]⟩ (by decide)).more (by omega))
      have b2 : ((p : Int) == 2) = false := by simp; omega
      by_cases e3 : p = 3
      · subst e3
        have MI := hide ((unhide M13).up (allocB w13 (.cells #[.int .i64 0, .int .i64 4, .int .i64 258] 3)))
        have XI := hide (boxF_new w13 [.int .i64 0, .int .i64 4, .int .i64 258] 3)
        have HZI := hide (show g < w13.heap.size from Nat.lt_of_lt_of_le (unhide M13).rdy.lt (unhide M13).rdy.size)
        simp only [List.toArray] at XI
        clear M13
        go_wp2_with fail
        generalize w13.alloc (.cells #[.int .i64 0, .int .i64 4, .int .i64 258] 3) = WI at *
        generalize w13.heap.size = gi at *
        refine (pick_rdy base g (N + 200 + 1) 3 w0 WI (by omega) (by omega) (by omega) (unhide MI).rdy).mono ?_
        rintro e w9 ⟨k9, rfl, hk9, D9, T9⟩
        have M9 := hide ((unhide MI).turnG (unhide T9) (unhide D9))
        have X9 := hide ((unhide XI).turn (unhide T9) (by have := unhide HZI; simp; omega))
        clear MI XI D9 T9
        obtain ⟨k, f, t, nm, v, a, n, c, ⟨q0, q1, q2, q3, q4, q5⟩, ⟨f0, f1, f2, f3, f4, f5⟩, hf1⟩ := (unhide M9).cells
        have i0 := (unhide X9).1.at 0 _ rfl
        have i1 := (unhide X9).1.at 1 _ rfl
        have i2 := (unhide X9).1.at 2 _ rfl
        rcases (show k9 = 0 ∨ k9 = 1 ∨ k9 = 2 by omega) with rfl | rfl | rfl
        · go_wp2_with fail
          go_meet
          exact hide (((unhide M9).kind 0 (by omega)).more (by omega))
        · go_wp2_with fail
          go_meet
          exact hide (((unhide M9).kind 4 (by omega)).more (by omega))
        · go_wp2_with fail
          go_meet
          exact hide (((unhide M9).kind 258 (by omega)).more (by omega))
      have b3 : ((p : Int) == 3) = false := by simp; omega
      by_cases e4 : p = 4
      · subst e4
        obtain ⟨k, f, t, nm, v, a, n, c, ⟨q0, q1, q2, q3, q4, q5⟩, ⟨f0, f1, f2, f3, f4, f5⟩, hf1⟩ := (unhide M13).cells
        go_wp2_with fail
        go_meet
        exact hide (((unhide M13).val 1 (by omega)).more (by omega))
      have b4 : ((p : Int) == 4) = false := by simp; omega
      by_cases e5 : p = 5
      · subst e5
        have MU := hide ((unhide M13).up (allocB w13 (.cells #[.string ⟨#[121]⟩, .int .i64 1, .string ⟨#[120]⟩, .int .i64 1] 57)))
        have M14 := hide ((unhide M13).stamp (a := some ⟨w13.heap.size, 0, none⟩) (n := 2) (c := 2) (vs := [⟨⟨#[121]⟩, 1⟩, ⟨⟨#[120]⟩, 1⟩]) (Turn.of_below (allocB w13 (.cells #[.string ⟨#[121]⟩, .int .i64 1, .string ⟨#[120]⟩, .int .i64 1] 57))) (unhide MU).rdy (verLit2 w13 _ _ (unhide M13).lt' (unhide M13).off) (by simp) (by intro x hx; simp at hx; rcases hx with rfl | rfl <;> (unfold VF33; decide)))
        obtain ⟨k, f, t, nm, v, a, n, c, ⟨q0, q1, q2, q3, q4, q5⟩, ⟨f0, f1, f2, f3, f4, f5⟩, hf1⟩ := (unhide MU).cells
        go_wp2_with fail
        go_meet
        exact hide ((unhide M14).more (by omega))
      have b5 : ((p : Int) == 5) = false := by simp; omega
      by_cases e6 : p = 6
      · subst e6
        have MI := hide ((unhide M13).up (allocB w13 (.cells #[.int .i64 0, .int .i64 1099511627777, .int .i64 (-1)] 3)))
        have XI := hide (boxF_new w13 [.int .i64 0, .int .i64 1099511627777, .int .i64 (-1)] 3)
        have HZI := hide (show g < w13.heap.size from Nat.lt_of_lt_of_le (unhide M13).rdy.lt (unhide M13).rdy.size)
        simp only [List.toArray] at XI
        clear M13
        go_wp2_with fail
        generalize w13.alloc (.cells #[.int .i64 0, .int .i64 1099511627777, .int .i64 (-1)] 3) = WI at *
        generalize w13.heap.size = gi at *
        refine (pick_rdy base g (N + 200 + 1) 3 w0 WI (by omega) (by omega) (by omega) (unhide MI).rdy).mono ?_
        rintro e w9 ⟨k9, rfl, hk9, D9, T9⟩
        have M9 := hide ((unhide MI).turnG (unhide T9) (unhide D9))
        have X9 := hide ((unhide XI).turn (unhide T9) (by have := unhide HZI; simp; omega))
        clear MI XI D9 T9
        have i0 := (unhide X9).1.at 0 _ rfl
        have i1 := (unhide X9).1.at 1 _ rfl
        have i2 := (unhide X9).1.at 2 _ rfl
        rcases (show k9 = 0 ∨ k9 = 1 ∨ k9 = 2 by omega) with rfl | rfl | rfl
        · skip
          have MV := hide ((unhide M9).up (allocB w9 (.cells #[.string ⟨#[120]⟩, .int .i64 0] 57)))
          have M14 := hide ((unhide M9).stamp (a := some ⟨w9.heap.size, 0, none⟩) (n := 1) (c := 1) (vs := [⟨⟨#[120]⟩, 0⟩]) (Turn.of_below (allocB w9 (.cells #[.string ⟨#[120]⟩, .int .i64 0] 57))) (unhide MV).rdy (verLit1 w9 _ _ _ (unhide M9).lt' (unhide M9).off) (by simp) (by intro x hx; simp at hx; subst hx; unfold VF33; decide))
          obtain ⟨k, f, t, nm, v, a, n, c, ⟨q0, q1, q2, q3, q4, q5⟩, ⟨f0, f1, f2, f3, f4, f5⟩, hf1⟩ := (unhide MV).cells
          go_wp2_with fail
          go_meet
          exact hide ((unhide M14).more (by omega))
        · skip
          have MV := hide ((unhide M9).up (allocB w9 (.cells #[.string ⟨#[120]⟩, .int .i64 1099511627777] 57)))
          have M14 := hide ((unhide M9).stamp (a := some ⟨w9.heap.size, 0, none⟩) (n := 1) (c := 1) (vs := [⟨⟨#[120]⟩, 1099511627777⟩]) (Turn.of_below (allocB w9 (.cells #[.string ⟨#[120]⟩, .int .i64 1099511627777] 57))) (unhide MV).rdy (verLit1 w9 _ _ _ (unhide M9).lt' (unhide M9).off) (by simp) (by intro x hx; simp at hx; subst hx; unfold VF33; decide))
          obtain ⟨k, f, t, nm, v, a, n, c, ⟨q0, q1, q2, q3, q4, q5⟩, ⟨f0, f1, f2, f3, f4, f5⟩, hf1⟩ := (unhide MV).cells
          go_wp2_with fail
          go_meet
          exact hide ((unhide M14).more (by omega))
        · skip
          have MV := hide ((unhide M9).up (allocB w9 (.cells #[.string ⟨#[120]⟩, .int .i64 (-1)] 57)))
          have M14 := hide ((unhide M9).stamp (a := some ⟨w9.heap.size, 0, none⟩) (n := 1) (c := 1) (vs := [⟨⟨#[120]⟩, (-1)⟩]) (Turn.of_below (allocB w9 (.cells #[.string ⟨#[120]⟩, .int .i64 (-1)] 57))) (unhide MV).rdy (verLit1 w9 _ _ _ (unhide M9).lt' (unhide M9).off) (by simp) (by intro x hx; simp at hx; subst hx; unfold VF33; decide))
          obtain ⟨k, f, t, nm, v, a, n, c, ⟨q0, q1, q2, q3, q4, q5⟩, ⟨f0, f1, f2, f3, f4, f5⟩, hf1⟩ := (unhide MV).cells
          go_wp2_with fail
          go_meet
          exact hide ((unhide M14).more (by omega))
      have b6 : ((p : Int) == 6) = false := by simp; omega
      by_cases e7 : p = 7
      · subst e7
        have M14 := hide ((unhide M13).stamp (a := none) (n := 0) (c := 0) (vs := []) (Turn.refl _ _) (unhide M13).rdy (VrHi.nil _ _ _ _) (by simp) (by simp))
        obtain ⟨k, f, t, nm, v, a, n, c, ⟨q0, q1, q2, q3, q4, q5⟩, ⟨f0, f1, f2, f3, f4, f5⟩, hf1⟩ := (unhide M13).cells
        go_wp2_with fail
        go_meet
        exact hide ((unhide M14).more (by omega))
      have b7 : ((p : Int) == 7) = false := by simp; omega
      go_wp2_with fail
      go_meet
      exact hide ((unhide M13).more (by omega))
    case rest =>
      have M9 := hcut
      clear M13 hcut
      obtain ⟨k, f, t, nm, v, a, n, c, ⟨q0, q1, q2, q3, q4, q5⟩, ⟨f0, f1, f2, f3, f4, f5⟩, hf1⟩ := (unhide M9).cells
      have hzz := (unhide M9).zero
      unfold zero6 at hzz
      obtain ⟨⟨y0, y1, y2, y3, y4, y5⟩, z0, z1, z2, z3, z4, z5⟩ := six33 hzz
      have KEY := hide ((unhide M9).ends _ _ _ _ _ _ _ _ q0 q1 q2 q3 q4 q5)
      clear hzz
      go_wp2_with fail
      refine bodyPost_ret (v := .agg #[.int .i64 k, .int .i64 f, .int .i64 t, .string nm, .int .i64 v, .slice a n c]) (by simp [results, Tryz.results32, go_sem, y0, y1, y2, y3, y4, y5]) rfl ?_
      exact unhide KEY _ (((((((Turn.refl [w.heap.size] wc).setCell (g := w.heap.size) (by simp) _ _).setCell (g := w.heap.size) (by simp) _ _).setCell (g := w.heap.size) (by simp) _ _).setCell (g := w.heap.size) (by simp) _ _).setCell (g := w.heap.size) (by simp) _ _).setCell (g := w.heap.size) (by simp) _ _)
end Go.Proofs.YtiebfcefmdiajaaGreatDoor
