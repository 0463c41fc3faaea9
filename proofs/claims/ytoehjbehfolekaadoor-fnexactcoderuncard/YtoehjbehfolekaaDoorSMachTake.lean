/-
  What the specification's machine does at one instruction that takes numbers off; and at every one that may be.
-/
import Derived.Test.YtoehjbehfolekaaDoorSMachDo
set_option linter.unusedVariables false
namespace Go.Proofs.YtoehjbehfolekaaDoor
open Go.RowKit Go.Maps Go.Deep

theorem step_none {m : VM} {bv : ByteArray → Int} {op a : Int} {s : ByteArray} (h : ¬ op = 1 ∧ ¬ op = 2 ∧ ¬ op = 3 ∧ ¬ op = 4 ∧ ¬ op = 8) (hl : m.st = []) : m.stepI bv op a s = .stuck := by
  unfold VM.stepI VM.do
  rw [if_neg (fun e => h.1 e.1), if_neg h.1, if_neg h.2.1, if_neg h.2.2.1, if_neg h.2.2.2.1, if_neg h.2.2.2.2, if_pos (show m.next.st = [] from hl)]
theorem step_some {m : VM} {bv : ByteArray → Int} {op a : Int} {s : ByteArray} (h : ¬ op = 1 ∧ ¬ op = 2 ∧ ¬ op = 3 ∧ ¬ op = 4 ∧ ¬ op = 8) (hl : ¬ m.st = []) : m.stepI bv op a s = m.next.doWith op a m.st.dropLast (m.st.getLastD 0) := by
  unfold VM.stepI VM.do
  rw [if_neg (fun e => h.1 e.1), if_neg h.1, if_neg h.2.1, if_neg h.2.2.1, if_neg h.2.2.2.1, if_neg h.2.2.2.2, if_neg (show ¬ m.next.st = [] from hl)]
  rfl

set_option maxRecDepth 100000 in
set_option maxHeartbeats 3200000 in
theorem sdo_zero_none (B b g : Nat) (m : VM) (a : Int) (s : ByteArray) (bs : List BindV) (ab : Option Addr) (capb : Nat) (w : World) (h : SMach B b g m.st m.sl m.tk false false w) (hBw : B ≤ w.heap.size) (hpc : (m.pc : Int) ≤ 4000) (hl0 : m.st = []) :
    Calls Tryd.prog 17 #[.pointer (some ⟨b, 0, none⟩), .agg #[.int .i64 9, .int .i64 a, .string s], .int .i64 m.pc, .slice ab bs.length capb] w fun e w' => SDone B b g (m.stepI (bvL bs) 9 a s) m.pc e w' ∧ Below B w w' := by
  obtain ⟨v, h⟩ := h
  have hlt := h.lt
  have hB := h.low
  have bA := (Below.refl w.heap.size w).alloc (Nat.le_refl _) (.cells #[.int .i64 9, .int .i64 a, .string s] 49)
  have hA := h.below bA
  have HD := hide (show SMach B b g m.st m.sl m.tk false false (w.alloc (.cells #[.int .i64 9, .int .i64 a, .string s] 49)) from ⟨v, hA⟩)
  have BA := hide ((Below.refl B w).alloc hBw (.cells #[.int .i64 9, .int .i64 a, .string s] 49))
  have c0 : (w.alloc (.cells #[.int .i64 9, .int .i64 a, .string s] 49)).cell? ⟨w.heap.size, 0, none⟩ = some (.int .i64 9) := World.cell?_alloc_at _ _ _ _ rfl
  have c1 : (w.alloc (.cells #[.int .i64 9, .int .i64 a, .string s] 49)).cell? ⟨w.heap.size, 1, none⟩ = some (.int .i64 a) := World.cell?_alloc_at _ _ _ _ rfl
  have hO := hide (step_none (m := m) (bv := bvL bs) (a := a) (s := s) (op := 9) (by omega) hl0)
  rw [hl0] at HD
  clear h bA hA c0
  go_enter Tryd.func17, Tryd.ntmps17
  go_wp2_with (first
    | (go_at_call 32; refine (s_pop_none B b g m.sl m.tk false false _ (unhide HD)).mono ?_; rintro e w2 ⟨rfl, hM2, hb2, hk2, hz2⟩; have HM2 := hide hM2; have HB2 := hide ((unhide BA).trans (hb2.mono (Nat.le_refl _))); have d1 := (hk2.cell (k := w.heap.size) (j := 1) (by omega)).trans c1; clear hM2 hb2 hk2)
    | go_in)
  go_ret
  exact ⟨sd_off (unhide hO) (unhide HM2), unhide HB2⟩

set_option maxRecDepth 100000 in
set_option maxHeartbeats 3200000 in
theorem sdo_bool_none (B b g : Nat) (m : VM) (a : Int) (s : ByteArray) (bs : List BindV) (ab : Option Addr) (capb : Nat) (w : World) (h : SMach B b g m.st m.sl m.tk false false w) (hBw : B ≤ w.heap.size) (hpc : (m.pc : Int) ≤ 4000) (hl0 : m.st = []) :
    Calls Tryd.prog 17 #[.pointer (some ⟨b, 0, none⟩), .agg #[.int .i64 10, .int .i64 a, .string s], .int .i64 m.pc, .slice ab bs.length capb] w fun e w' => SDone B b g (m.stepI (bvL bs) 10 a s) m.pc e w' ∧ Below B w w' := by
  obtain ⟨v, h⟩ := h
  have hlt := h.lt
  have hB := h.low
  have bA := (Below.refl w.heap.size w).alloc (Nat.le_refl _) (.cells #[.int .i64 10, .int .i64 a, .string s] 49)
  have hA := h.below bA
  have HD := hide (show SMach B b g m.st m.sl m.tk false false (w.alloc (.cells #[.int .i64 10, .int .i64 a, .string s] 49)) from ⟨v, hA⟩)
  have BA := hide ((Below.refl B w).alloc hBw (.cells #[.int .i64 10, .int .i64 a, .string s] 49))
  have c0 : (w.alloc (.cells #[.int .i64 10, .int .i64 a, .string s] 49)).cell? ⟨w.heap.size, 0, none⟩ = some (.int .i64 10) := World.cell?_alloc_at _ _ _ _ rfl
  have c1 : (w.alloc (.cells #[.int .i64 10, .int .i64 a, .string s] 49)).cell? ⟨w.heap.size, 1, none⟩ = some (.int .i64 a) := World.cell?_alloc_at _ _ _ _ rfl
  have hO := hide (step_none (m := m) (bv := bvL bs) (a := a) (s := s) (op := 10) (by omega) hl0)
  rw [hl0] at HD
  clear h bA hA c0
  go_enter Tryd.func17, Tryd.ntmps17
  go_wp2_with (first
    | (go_at_call 30; have := HM2; refine (spush_room B b g [] m.sl m.tk false true _ _ (unhide HM2) (by simp)).mono ?_; rintro e w9 ⟨rfl, hM9, hb9⟩; have HM9 := hide hM9; have HB9 := hide ((unhide HB2).trans (hb9.mono (Nat.le_refl _))); clear hM9 hb9)
    | (go_at_call 32; refine (s_pop_none B b g m.sl m.tk false false _ (unhide HD)).mono ?_; rintro e w2 ⟨rfl, hM2, hb2, hk2, hz2⟩; have HM2 := hide hM2; have HB2 := hide ((unhide BA).trans (hb2.mono (Nat.le_refl _))); have d1 := (hk2.cell (k := w.heap.size) (j := 1) (by omega)).trans c1; clear hM2 hb2 hk2)
    | (go_at_call 34; refine (specOne_any _ _).mono ?_; rintro e wo ⟨rfl, rfl⟩)
    | go_in)
  go_ret
  exact ⟨sd_off (unhide hO) (unhide HM9), unhide HB9⟩

set_option maxRecDepth 100000 in
set_option maxHeartbeats 3200000 in
theorem sdo_times_none (B b g : Nat) (m : VM) (a : Int) (s : ByteArray) (bs : List BindV) (ab : Option Addr) (capb : Nat) (w : World) (h : SMach B b g m.st m.sl m.tk false false w) (hBw : B ≤ w.heap.size) (hpc : (m.pc : Int) ≤ 4000) (hl0 : m.st = []) :
    Calls Tryd.prog 17 #[.pointer (some ⟨b, 0, none⟩), .agg #[.int .i64 11, .int .i64 a, .string s], .int .i64 m.pc, .slice ab bs.length capb] w fun e w' => SDone B b g (m.stepI (bvL bs) 11 a s) m.pc e w' ∧ Below B w w' := by
  obtain ⟨v, h⟩ := h
  have hlt := h.lt
  have hB := h.low
  have bA := (Below.refl w.heap.size w).alloc (Nat.le_refl _) (.cells #[.int .i64 11, .int .i64 a, .string s] 49)
  have hA := h.below bA
  have HD := hide (show SMach B b g m.st m.sl m.tk false false (w.alloc (.cells #[.int .i64 11, .int .i64 a, .string s] 49)) from ⟨v, hA⟩)
  have BA := hide ((Below.refl B w).alloc hBw (.cells #[.int .i64 11, .int .i64 a, .string s] 49))
  have c0 : (w.alloc (.cells #[.int .i64 11, .int .i64 a, .string s] 49)).cell? ⟨w.heap.size, 0, none⟩ = some (.int .i64 11) := World.cell?_alloc_at _ _ _ _ rfl
  have c1 : (w.alloc (.cells #[.int .i64 11, .int .i64 a, .string s] 49)).cell? ⟨w.heap.size, 1, none⟩ = some (.int .i64 a) := World.cell?_alloc_at _ _ _ _ rfl
  have hO := hide (step_none (m := m) (bv := bvL bs) (a := a) (s := s) (op := 11) (by omega) hl0)
  rw [hl0] at HD
  clear h bA hA c0
  go_enter Tryd.func17, Tryd.ntmps17
  go_wp2_with (first
    | (go_at_call 30; have := HM2; refine (spush_room B b g [] m.sl m.tk false true _ _ (unhide HM2) (by simp)).mono ?_; rintro e w9 ⟨rfl, hM9, hb9⟩; have HM9 := hide hM9; have HB9 := hide ((unhide HB2).trans (hb9.mono (Nat.le_refl _))); clear hM9 hb9)
    | (go_at_call 32; refine (s_pop_none B b g m.sl m.tk false false _ (unhide HD)).mono ?_; rintro e w2 ⟨rfl, hM2, hb2, hk2, hz2⟩; have HM2 := hide hM2; have HB2 := hide ((unhide BA).trans (hb2.mono (Nat.le_refl _))); have d1 := (hk2.cell (k := w.heap.size) (j := 1) (by omega)).trans c1; clear hM2 hb2 hk2)
    | go_in)
  go_ret
  exact ⟨sd_off (unhide hO) (unhide HM9), unhide HB9⟩

set_option maxRecDepth 100000 in
set_option maxHeartbeats 3200000 in
theorem sdo_two_none (B b g : Nat) (m : VM) (a : Int) (s : ByteArray) (bs : List BindV) (ab : Option Addr) (capb : Nat) (w : World) (h : SMach B b g m.st m.sl m.tk false false w) (hBw : B ≤ w.heap.size) (hpc : (m.pc : Int) ≤ 4000) (hl0 : m.st = []) :
    Calls Tryd.prog 17 #[.pointer (some ⟨b, 0, none⟩), .agg #[.int .i64 7, .int .i64 a, .string s], .int .i64 m.pc, .slice ab bs.length capb] w fun e w' => SDone B b g (m.stepI (bvL bs) 7 a s) m.pc e w' ∧ Below B w w' := by
  obtain ⟨v, h⟩ := h
  have hlt := h.lt
  have hB := h.low
  have bA := (Below.refl w.heap.size w).alloc (Nat.le_refl _) (.cells #[.int .i64 7, .int .i64 a, .string s] 49)
  have hA := h.below bA
  have HD := hide (show SMach B b g m.st m.sl m.tk false false (w.alloc (.cells #[.int .i64 7, .int .i64 a, .string s] 49)) from ⟨v, hA⟩)
  have BA := hide ((Below.refl B w).alloc hBw (.cells #[.int .i64 7, .int .i64 a, .string s] 49))
  have c0 : (w.alloc (.cells #[.int .i64 7, .int .i64 a, .string s] 49)).cell? ⟨w.heap.size, 0, none⟩ = some (.int .i64 7) := World.cell?_alloc_at _ _ _ _ rfl
  have c1 : (w.alloc (.cells #[.int .i64 7, .int .i64 a, .string s] 49)).cell? ⟨w.heap.size, 1, none⟩ = some (.int .i64 a) := World.cell?_alloc_at _ _ _ _ rfl
  have hO := hide (step_none (m := m) (bv := bvL bs) (a := a) (s := s) (op := 7) (by omega) hl0)
  rw [hl0] at HD
  clear h bA hA c0
  go_enter Tryd.func17, Tryd.ntmps17
  go_wp2_with (first
    | (go_at_call 30; have := HM3; refine (spush_room B b g [] m.sl m.tk false true _ _ (unhide HM3) (by simp)).mono ?_; rintro e w9 ⟨rfl, hM9, hb9⟩; have HM9 := hide hM9; have HB9 := hide ((unhide HB3).trans (hb9.mono (Nat.le_refl _))); clear hM9 hb9)
    | (go_at_call 32; have := HM2; refine (s_pop_none B b g m.sl m.tk false true _ (unhide HM2)).mono ?_; rintro e w3 ⟨rfl, hM3, hb3, hk3, hz3⟩; have HM3 := hide hM3; have HB3 := hide ((unhide HB2).trans (hb3.mono (Nat.le_refl _))); have e1 := (hk3.cell (k := w.heap.size) (j := 1) (by omega)).trans d1; clear hM3 hb3 hk3)
    | (go_at_call 32; refine (s_pop_none B b g m.sl m.tk false false _ (unhide HD)).mono ?_; rintro e w2 ⟨rfl, hM2, hb2, hk2, hz2⟩; have HM2 := hide hM2; have HB2 := hide ((unhide BA).trans (hb2.mono (Nat.le_refl _))); have d1 := (hk2.cell (k := w.heap.size) (j := 1) (by omega)).trans c1; clear hM2 hb2 hk2)
    | (go_at_call 33; refine (specOp_any _ _ _ _).mono ?_; rintro e wo ⟨rfl, rfl⟩)
    | go_in)
  go_ret
  exact ⟨sd_off (unhide hO) (unhide HM9), unhide HB9⟩

set_option maxRecDepth 100000 in
set_option maxHeartbeats 3200000 in
theorem sdo_one_none (B b g : Nat) (m : VM) (a : Int) (s : ByteArray) (bs : List BindV) (ab : Option Addr) (capb : Nat) (w : World) (h : SMach B b g m.st m.sl m.tk false false w) (hBw : B ≤ w.heap.size) (hpc : (m.pc : Int) ≤ 4000) (hl0 : m.st = []) :
    Calls Tryd.prog 17 #[.pointer (some ⟨b, 0, none⟩), .agg #[.int .i64 6, .int .i64 a, .string s], .int .i64 m.pc, .slice ab bs.length capb] w fun e w' => SDone B b g (m.stepI (bvL bs) 6 a s) m.pc e w' ∧ Below B w w' := by
  obtain ⟨v, h⟩ := h
  have hlt := h.lt
  have hB := h.low
  have bA := (Below.refl w.heap.size w).alloc (Nat.le_refl _) (.cells #[.int .i64 6, .int .i64 a, .string s] 49)
  have hA := h.below bA
  have HD := hide (show SMach B b g m.st m.sl m.tk false false (w.alloc (.cells #[.int .i64 6, .int .i64 a, .string s] 49)) from ⟨v, hA⟩)
  have BA := hide ((Below.refl B w).alloc hBw (.cells #[.int .i64 6, .int .i64 a, .string s] 49))
  have c0 : (w.alloc (.cells #[.int .i64 6, .int .i64 a, .string s] 49)).cell? ⟨w.heap.size, 0, none⟩ = some (.int .i64 6) := World.cell?_alloc_at _ _ _ _ rfl
  have c1 : (w.alloc (.cells #[.int .i64 6, .int .i64 a, .string s] 49)).cell? ⟨w.heap.size, 1, none⟩ = some (.int .i64 a) := World.cell?_alloc_at _ _ _ _ rfl
  have hO := hide (step_none (m := m) (bv := bvL bs) (a := a) (s := s) (op := 6) (by omega) hl0)
  rw [hl0] at HD
  clear h bA
  go_enter Tryd.func17, Tryd.ntmps17
  go_wp2_with fail
  generalize hW : w.alloc (.cells #[.int .i64 6, .int .i64 a, .string s] 49) = W at *
  clear hW
  have HDd := hide (unhide HD).drew
  have BAd := hide (unhide BA).drew
  have d0 : W.drew.cell? ⟨w.heap.size, 1, none⟩ = some (.int .i64 a) := c1
  clear hA
  go_region_with (first
    | (go_at_call 30; have := HM2; refine (spush_room B b g [] m.sl m.tk false true _ _ (unhide HM2) (by simp)).mono ?_; rintro e w9 ⟨rfl, hM9, hb9⟩; have HM9 := hide hM9; have HB9 := hide ((unhide HB2).trans (hb9.mono (Nat.le_refl _))); clear hM9 hb9)
    | (go_at_call 32; refine (s_pop_none B b g m.sl m.tk false false _ (unhide HDd)).mono ?_; rintro e w2 ⟨rfl, hM2, hb2, hk2, hz2⟩; have HM2 := hide hM2; have HB2 := hide ((unhide BAd).trans (hb2.mono (Nat.le_refl _))); have d1 := (hk2.cell (k := w.heap.size) (j := 1) (by omega)).trans c1; clear hM2 hb2 hk2)
    | (go_at_call 33; refine (specOp_any _ _ _ _).mono ?_; rintro e wo ⟨rfl, rfl⟩))
  all_goals
    go_wp2
    go_ret
    exact ⟨sd_off (unhide hO) (unhide HM9), unhide HB9⟩

set_option maxRecDepth 100000 in
set_option maxHeartbeats 3200000 in
theorem sdo_put_none (B b g : Nat) (m : VM) (a : Int) (s : ByteArray) (bs : List BindV) (ab : Option Addr) (capb : Nat) (w : World) (h : SMach B b g m.st m.sl m.tk false false w) (hBw : B ≤ w.heap.size) (hpc : (m.pc : Int) ≤ 4000) (hl0 : m.st = []) (h0 : 0 ≤ a) (h1 : a < 80) :
    Calls Tryd.prog 17 #[.pointer (some ⟨b, 0, none⟩), .agg #[.int .i64 5, .int .i64 a, .string s], .int .i64 m.pc, .slice ab bs.length capb] w fun e w' => SDone B b g (m.stepI (bvL bs) 5 a s) m.pc e w' ∧ Below B w w' := by
  obtain ⟨v, h⟩ := h
  have hlt := h.lt
  have hB := h.low
  have bA := (Below.refl w.heap.size w).alloc (Nat.le_refl _) (.cells #[.int .i64 5, .int .i64 a, .string s] 49)
  have hA := h.below bA
  have HD := hide (show SMach B b g m.st m.sl m.tk false false (w.alloc (.cells #[.int .i64 5, .int .i64 a, .string s] 49)) from ⟨v, hA⟩)
  have BA := hide ((Below.refl B w).alloc hBw (.cells #[.int .i64 5, .int .i64 a, .string s] 49))
  have c0 : (w.alloc (.cells #[.int .i64 5, .int .i64 a, .string s] 49)).cell? ⟨w.heap.size, 0, none⟩ = some (.int .i64 5) := World.cell?_alloc_at _ _ _ _ rfl
  have c1 : (w.alloc (.cells #[.int .i64 5, .int .i64 a, .string s] 49)).cell? ⟨w.heap.size, 1, none⟩ = some (.int .i64 a) := World.cell?_alloc_at _ _ _ _ rfl
  have hO := hide (step_none (m := m) (bv := bvL bs) (a := a) (s := s) (op := 5) (by omega) hl0)
  rw [hl0] at HD
  clear h bA
  go_enter Tryd.func17, Tryd.ntmps17
  go_wp2_with fail
  generalize hW : w.alloc (.cells #[.int .i64 5, .int .i64 a, .string s] 49) = W at *
  clear hW
  have HDd := hide (unhide HD).drew
  have BAd := hide (unhide BA).drew
  have d0 : W.drew.cell? ⟨w.heap.size, 1, none⟩ = some (.int .i64 a) := c1
  have e1 : W.drew.cell? ⟨b, 1, none⟩ = some (.slice (some ⟨g, 0, none⟩) 80 80) := hA.c1
  clear hA
  go_region_with (first
    | (go_at_call 32; refine (s_pop_none B b g m.sl m.tk false false _ (unhide HDd)).mono ?_; rintro e w2 ⟨rfl, hM2, hb2, hk2, hz2⟩; obtain ⟨v2, hA2⟩ := hM2; have HP2 := hide (hA2.putSlot a.toNat (by omega) 0); have HB2 := hide (((unhide BAd).trans (hb2.mono (Nat.le_refl _))).setCell (p := ⟨g, a.toNat, none⟩) (hA2.slots.lt g rfl).1 (.int .i64 0)); have d1 := (hk2.cell (k := w.heap.size) (j := 1) (by omega)).trans d0; have x1 := hA2.c1; have x2 := hA2.slot a.toNat (by omega); have x3 := hA2.sfree a.toNat; clear hA2 hb2 hk2))
  all_goals
    go_wp2
    go_ret
    exact ⟨sd_off (unhide hO) ⟨_, unhide HP2⟩, unhide HB2⟩

set_option maxRecDepth 100000 in
set_option maxHeartbeats 3200000 in
theorem sdo_zero_some (B b g : Nat) (m : VM) (a : Int) (s : ByteArray) (bs : List BindV) (ab : Option Addr) (capb : Nat) (w : World) (h : SMach B b g m.st m.sl m.tk false false w) (hBw : B ≤ w.heap.size) (hpc : (m.pc : Int) ≤ 4000) (hl0 : ¬ m.st = []) (h5 : m.st.length ≤ 500) (h0 : 0 ≤ a) :
    Calls Tryd.prog 17 #[.pointer (some ⟨b, 0, none⟩), .agg #[.int .i64 9, .int .i64 a, .string s], .int .i64 m.pc, .slice ab bs.length capb] w fun e w' => SDone B b g (m.stepI (bvL bs) 9 a s) m.pc e w' ∧ Below B w w' := by
  obtain ⟨v, h⟩ := h
  have hlt := h.lt
  have hB := h.low
  have bA := (Below.refl w.heap.size w).alloc (Nat.le_refl _) (.cells #[.int .i64 9, .int .i64 a, .string s] 49)
  have hA := h.below bA
  have HD := hide (show SMach B b g m.st m.sl m.tk false false (w.alloc (.cells #[.int .i64 9, .int .i64 a, .string s] 49)) from ⟨v, hA⟩)
  have BA := hide ((Below.refl B w).alloc hBw (.cells #[.int .i64 9, .int .i64 a, .string s] 49))
  have c0 : (w.alloc (.cells #[.int .i64 9, .int .i64 a, .string s] 49)).cell? ⟨w.heap.size, 0, none⟩ = some (.int .i64 9) := World.cell?_alloc_at _ _ _ _ rfl
  have c1 : (w.alloc (.cells #[.int .i64 9, .int .i64 a, .string s] 49)).cell? ⟨w.heap.size, 1, none⟩ = some (.int .i64 a) := World.cell?_alloc_at _ _ _ _ rfl
  have hS := step_some (m := m) (bv := bvL bs) (a := a) (s := s) (op := 9) (by omega) hl0
  have hpos := List.length_pos_iff.2 hl0
  have hl4 : m.st.dropLast.length < 500 := by simp; omega
  generalize hlast : m.st.getLastD 0 = x at *
  have HX := hide hlast
  clear hlast
  by_cases hx : x = 0
  · have hO := hide (show m.stepI (bvL bs) 9 a s = .on { m.next with st := m.st.dropLast, pc := a.toNat } by rw [hS]; unfold VM.doWith; rw [if_neg (by omega), if_pos rfl]; simp only [if_pos hx])
    have hx' : (x == 0) = true := by simpa using hx
    have hat : ((a.toNat : Nat) : Int) = a := by omega
    have HAT := hide hat
    clear h bA hA c0 hx hS hat
    go_enter Tryd.func17, Tryd.ntmps17
    go_wp2_with (first
      | (go_at_call 32; refine (s_pop_some B b g m.st m.sl m.tk false false _ (unhide HD) hl0 h5).mono ?_; rw [unhide HX]; rintro e w2 ⟨rfl, hM2, hb2, hk2, hz2⟩; have HM2 := hide hM2; have HB2 := hide ((unhide BA).trans (hb2.mono (Nat.le_refl _))); have d1 := (hk2.cell (k := w.heap.size) (j := 1) (by omega)).trans c1; clear hM2 hb2 hk2)
      | go_in)
    go_ret
    exact ⟨sd_on (unhide hO) (unhide HAT).symm (unhide HM2), unhide HB2⟩
  · have hO := hide (show m.stepI (bvL bs) 9 a s = .on { m.next with st := m.st.dropLast } by rw [hS]; unfold VM.doWith; rw [if_neg (by omega), if_pos rfl]; simp only [if_neg hx])
    have hx' : (x == 0) = false := by simpa using hx
    clear h bA hA c0 hx hS
    go_enter Tryd.func17, Tryd.ntmps17
    go_wp2_with (first
      | (go_at_call 32; refine (s_pop_some B b g m.st m.sl m.tk false false _ (unhide HD) hl0 h5).mono ?_; rw [unhide HX]; rintro e w2 ⟨rfl, hM2, hb2, hk2, hz2⟩; have HM2 := hide hM2; have HB2 := hide ((unhide BA).trans (hb2.mono (Nat.le_refl _))); have d1 := (hk2.cell (k := w.heap.size) (j := 1) (by omega)).trans c1; clear hM2 hb2 hk2)
      | go_in)
    go_ret
    exact ⟨sd_on (unhide hO) (by simp [VM.next]) (unhide HM2), unhide HB2⟩

set_option maxRecDepth 100000 in
set_option maxHeartbeats 3200000 in
theorem sdo_bool_some (B b g : Nat) (m : VM) (a : Int) (s : ByteArray) (bs : List BindV) (ab : Option Addr) (capb : Nat) (w : World) (h : SMach B b g m.st m.sl m.tk false false w) (hBw : B ≤ w.heap.size) (hpc : (m.pc : Int) ≤ 4000) (hl0 : ¬ m.st = []) (h5 : m.st.length ≤ 500) :
    Calls Tryd.prog 17 #[.pointer (some ⟨b, 0, none⟩), .agg #[.int .i64 10, .int .i64 a, .string s], .int .i64 m.pc, .slice ab bs.length capb] w fun e w' => SDone B b g (m.stepI (bvL bs) 10 a s) m.pc e w' ∧ Below B w w' := by
  obtain ⟨v, h⟩ := h
  have hlt := h.lt
  have hB := h.low
  have bA := (Below.refl w.heap.size w).alloc (Nat.le_refl _) (.cells #[.int .i64 10, .int .i64 a, .string s] 49)
  have hA := h.below bA
  have HD := hide (show SMach B b g m.st m.sl m.tk false false (w.alloc (.cells #[.int .i64 10, .int .i64 a, .string s] 49)) from ⟨v, hA⟩)
  have BA := hide ((Below.refl B w).alloc hBw (.cells #[.int .i64 10, .int .i64 a, .string s] 49))
  have c0 : (w.alloc (.cells #[.int .i64 10, .int .i64 a, .string s] 49)).cell? ⟨w.heap.size, 0, none⟩ = some (.int .i64 10) := World.cell?_alloc_at _ _ _ _ rfl
  have c1 : (w.alloc (.cells #[.int .i64 10, .int .i64 a, .string s] 49)).cell? ⟨w.heap.size, 1, none⟩ = some (.int .i64 a) := World.cell?_alloc_at _ _ _ _ rfl
  have hS := step_some (m := m) (bv := bvL bs) (a := a) (s := s) (op := 10) (by omega) hl0
  have hpos := List.length_pos_iff.2 hl0
  have hl4 : m.st.dropLast.length < 500 := by simp; omega
  generalize hlast : m.st.getLastD 0 = x at *
  have HX := hide hlast
  clear hlast
  have hO := hide (show m.stepI (bvL bs) 10 a s = .on { m.next with st := m.st.dropLast ++ [bi (x != 0)] } by rw [hS]; rfl)
  clear h bA hA c0 hS
  go_enter Tryd.func17, Tryd.ntmps17
  go_wp2_with (first
    | (go_at_call 30; have := HM2; refine (spush_room B b g m.st.dropLast m.sl m.tk false false _ _ (unhide HM2) hl4).mono ?_; rintro e w9 ⟨rfl, hM9, hb9⟩; have HM9 := hide hM9; have HB9 := hide ((unhide HB2).trans (hb9.mono (Nat.le_refl _))); clear hM9 hb9)
    | (go_at_call 32; refine (s_pop_some B b g m.st m.sl m.tk false false _ (unhide HD) hl0 h5).mono ?_; rw [unhide HX]; rintro e w2 ⟨rfl, hM2, hb2, hk2, hz2⟩; have HM2 := hide hM2; have HB2 := hide ((unhide BA).trans (hb2.mono (Nat.le_refl _))); have d1 := (hk2.cell (k := w.heap.size) (j := 1) (by omega)).trans c1; clear hM2 hb2 hk2)
    | (go_at_call 34; refine (specOne_any _ _).mono ?_; rintro e wo ⟨rfl, rfl⟩)
    | go_in)
  go_ret
  exact ⟨sd_on (unhide hO) (by simp [VM.next]) (unhide HM9), unhide HB9⟩

set_option maxRecDepth 100000 in
set_option maxHeartbeats 3200000 in
theorem sdo_times_lo (B b g : Nat) (m : VM) (a : Int) (s : ByteArray) (bs : List BindV) (ab : Option Addr) (capb : Nat) (w : World) (h : SMach B b g m.st m.sl m.tk false false w) (hBw : B ≤ w.heap.size) (hpc : (m.pc : Int) ≤ 4000) (hl0 : ¬ m.st = []) (h5 : m.st.length ≤ 500) (t0 : m.st.getLastD 0 < 0) :
    Calls Tryd.prog 17 #[.pointer (some ⟨b, 0, none⟩), .agg #[.int .i64 11, .int .i64 a, .string s], .int .i64 m.pc, .slice ab bs.length capb] w fun e w' => SDone B b g (m.stepI (bvL bs) 11 a s) m.pc e w' ∧ Below B w w' := by
  obtain ⟨v, h⟩ := h
  have hlt := h.lt
  have hB := h.low
  have bA := (Below.refl w.heap.size w).alloc (Nat.le_refl _) (.cells #[.int .i64 11, .int .i64 a, .string s] 49)
  have hA := h.below bA
  have HD := hide (show SMach B b g m.st m.sl m.tk false false (w.alloc (.cells #[.int .i64 11, .int .i64 a, .string s] 49)) from ⟨v, hA⟩)
  have BA := hide ((Below.refl B w).alloc hBw (.cells #[.int .i64 11, .int .i64 a, .string s] 49))
  have c0 : (w.alloc (.cells #[.int .i64 11, .int .i64 a, .string s] 49)).cell? ⟨w.heap.size, 0, none⟩ = some (.int .i64 11) := World.cell?_alloc_at _ _ _ _ rfl
  have c1 : (w.alloc (.cells #[.int .i64 11, .int .i64 a, .string s] 49)).cell? ⟨w.heap.size, 1, none⟩ = some (.int .i64 a) := World.cell?_alloc_at _ _ _ _ rfl
  have hS := step_some (m := m) (bv := bvL bs) (a := a) (s := s) (op := 11) (by omega) hl0
  have hpos := List.length_pos_iff.2 hl0
  have hl4 : m.st.dropLast.length < 500 := by simp; omega
  generalize hlast : m.st.getLastD 0 = x at *
  have HX := hide hlast
  clear hlast
  have hO := hide (show m.stepI (bvL bs) 11 a s = .on { m.next with st := m.st.dropLast ++ [0] } by rw [hS]; unfold VM.doWith; rw [if_neg (by omega), if_neg (by omega), if_neg (by omega), if_pos rfl]; rw [if_pos t0])
  have t2 : ¬ 64 < x := by omega
  clear h bA hA c0 hS
  go_enter Tryd.func17, Tryd.ntmps17
  go_wp2_with (first
    | (go_at_call 30; have := HM2; refine (spush_room B b g m.st.dropLast m.sl m.tk false false _ _ (unhide HM2) hl4).mono ?_; rintro e w9 ⟨rfl, hM9, hb9⟩; have HM9 := hide hM9; have HB9 := hide ((unhide HB2).trans (hb9.mono (Nat.le_refl _))); clear hM9 hb9)
    | (go_at_call 32; refine (s_pop_some B b g m.st m.sl m.tk false false _ (unhide HD) hl0 h5).mono ?_; rw [unhide HX]; rintro e w2 ⟨rfl, hM2, hb2, hk2, hz2⟩; have HM2 := hide hM2; have HB2 := hide ((unhide BA).trans (hb2.mono (Nat.le_refl _))); have d1 := (hk2.cell (k := w.heap.size) (j := 1) (by omega)).trans c1; clear hM2 hb2 hk2)
    | go_in)
  go_ret
  exact ⟨sd_on (unhide hO) (by simp [VM.next]) (unhide HM9), unhide HB9⟩

set_option maxRecDepth 100000 in
set_option maxHeartbeats 3200000 in
theorem sdo_times_hi (B b g : Nat) (m : VM) (a : Int) (s : ByteArray) (bs : List BindV) (ab : Option Addr) (capb : Nat) (w : World) (h : SMach B b g m.st m.sl m.tk false false w) (hBw : B ≤ w.heap.size) (hpc : (m.pc : Int) ≤ 4000) (hl0 : ¬ m.st = []) (h5 : m.st.length ≤ 500) (t0 : ¬ m.st.getLastD 0 < 0) (t1 : 64 < m.st.getLastD 0) :
    Calls Tryd.prog 17 #[.pointer (some ⟨b, 0, none⟩), .agg #[.int .i64 11, .int .i64 a, .string s], .int .i64 m.pc, .slice ab bs.length capb] w fun e w' => SDone B b g (m.stepI (bvL bs) 11 a s) m.pc e w' ∧ Below B w w' := by
  obtain ⟨v, h⟩ := h
  have hlt := h.lt
  have hB := h.low
  have bA := (Below.refl w.heap.size w).alloc (Nat.le_refl _) (.cells #[.int .i64 11, .int .i64 a, .string s] 49)
  have hA := h.below bA
  have HD := hide (show SMach B b g m.st m.sl m.tk false false (w.alloc (.cells #[.int .i64 11, .int .i64 a, .string s] 49)) from ⟨v, hA⟩)
  have BA := hide ((Below.refl B w).alloc hBw (.cells #[.int .i64 11, .int .i64 a, .string s] 49))
  have c0 : (w.alloc (.cells #[.int .i64 11, .int .i64 a, .string s] 49)).cell? ⟨w.heap.size, 0, none⟩ = some (.int .i64 11) := World.cell?_alloc_at _ _ _ _ rfl
  have c1 : (w.alloc (.cells #[.int .i64 11, .int .i64 a, .string s] 49)).cell? ⟨w.heap.size, 1, none⟩ = some (.int .i64 a) := World.cell?_alloc_at _ _ _ _ rfl
  have hS := step_some (m := m) (bv := bvL bs) (a := a) (s := s) (op := 11) (by omega) hl0
  have hpos := List.length_pos_iff.2 hl0
  have hl4 : m.st.dropLast.length < 500 := by simp; omega
  generalize hlast : m.st.getLastD 0 = x at *
  have HX := hide hlast
  clear hlast
  have hO := hide (show m.stepI (bvL bs) 11 a s = .on { m.next with st := m.st.dropLast ++ [64] } by rw [hS]; unfold VM.doWith; rw [if_neg (by omega), if_neg (by omega), if_neg (by omega), if_pos rfl]; rw [if_neg t0, if_pos t1])
  clear h bA hA c0 hS
  go_enter Tryd.func17, Tryd.ntmps17
  go_wp2_with (first
    | (go_at_call 30; have := HM2; refine (spush_room B b g m.st.dropLast m.sl m.tk false false _ _ (unhide HM2) hl4).mono ?_; rintro e w9 ⟨rfl, hM9, hb9⟩; have HM9 := hide hM9; have HB9 := hide ((unhide HB2).trans (hb9.mono (Nat.le_refl _))); clear hM9 hb9)
    | (go_at_call 32; refine (s_pop_some B b g m.st m.sl m.tk false false _ (unhide HD) hl0 h5).mono ?_; rw [unhide HX]; rintro e w2 ⟨rfl, hM2, hb2, hk2, hz2⟩; have HM2 := hide hM2; have HB2 := hide ((unhide BA).trans (hb2.mono (Nat.le_refl _))); have d1 := (hk2.cell (k := w.heap.size) (j := 1) (by omega)).trans c1; clear hM2 hb2 hk2)
    | go_in)
  go_ret
  exact ⟨sd_on (unhide hO) (by simp [VM.next]) (unhide HM9), unhide HB9⟩

set_option maxRecDepth 100000 in
set_option maxHeartbeats 3200000 in
theorem sdo_times_in (B b g : Nat) (m : VM) (a : Int) (s : ByteArray) (bs : List BindV) (ab : Option Addr) (capb : Nat) (w : World) (h : SMach B b g m.st m.sl m.tk false false w) (hBw : B ≤ w.heap.size) (hpc : (m.pc : Int) ≤ 4000) (hl0 : ¬ m.st = []) (h5 : m.st.length ≤ 500) (t0 : ¬ m.st.getLastD 0 < 0) (t1 : ¬ 64 < m.st.getLastD 0) :
    Calls Tryd.prog 17 #[.pointer (some ⟨b, 0, none⟩), .agg #[.int .i64 11, .int .i64 a, .string s], .int .i64 m.pc, .slice ab bs.length capb] w fun e w' => SDone B b g (m.stepI (bvL bs) 11 a s) m.pc e w' ∧ Below B w w' := by
  obtain ⟨v, h⟩ := h
  have hlt := h.lt
  have hB := h.low
  have bA := (Below.refl w.heap.size w).alloc (Nat.le_refl _) (.cells #[.int .i64 11, .int .i64 a, .string s] 49)
  have hA := h.below bA
  have HD := hide (show SMach B b g m.st m.sl m.tk false false (w.alloc (.cells #[.int .i64 11, .int .i64 a, .string s] 49)) from ⟨v, hA⟩)
  have BA := hide ((Below.refl B w).alloc hBw (.cells #[.int .i64 11, .int .i64 a, .string s] 49))
  have c0 : (w.alloc (.cells #[.int .i64 11, .int .i64 a, .string s] 49)).cell? ⟨w.heap.size, 0, none⟩ = some (.int .i64 11) := World.cell?_alloc_at _ _ _ _ rfl
  have c1 : (w.alloc (.cells #[.int .i64 11, .int .i64 a, .string s] 49)).cell? ⟨w.heap.size, 1, none⟩ = some (.int .i64 a) := World.cell?_alloc_at _ _ _ _ rfl
  have hS := step_some (m := m) (bv := bvL bs) (a := a) (s := s) (op := 11) (by omega) hl0
  have hpos := List.length_pos_iff.2 hl0
  have hl4 : m.st.dropLast.length < 500 := by simp; omega
  generalize hlast : m.st.getLastD 0 = x at *
  have HX := hide hlast
  clear hlast
  have hO := hide (show m.stepI (bvL bs) 11 a s = .on { m.next with st := m.st.dropLast ++ [x] } by rw [hS]; unfold VM.doWith; rw [if_neg (by omega), if_neg (by omega), if_neg (by omega), if_pos rfl]; rw [if_neg t0, if_neg t1])
  clear h bA hA c0 hS
  go_enter Tryd.func17, Tryd.ntmps17
  go_wp2_with (first
    | (go_at_call 30; have := HM2; refine (spush_room B b g m.st.dropLast m.sl m.tk false false _ _ (unhide HM2) hl4).mono ?_; rintro e w9 ⟨rfl, hM9, hb9⟩; have HM9 := hide hM9; have HB9 := hide ((unhide HB2).trans (hb9.mono (Nat.le_refl _))); clear hM9 hb9)
    | (go_at_call 32; refine (s_pop_some B b g m.st m.sl m.tk false false _ (unhide HD) hl0 h5).mono ?_; rw [unhide HX]; rintro e w2 ⟨rfl, hM2, hb2, hk2, hz2⟩; have HM2 := hide hM2; have HB2 := hide ((unhide BA).trans (hb2.mono (Nat.le_refl _))); have d1 := (hk2.cell (k := w.heap.size) (j := 1) (by omega)).trans c1; clear hM2 hb2 hk2)
    | go_in)
  go_ret
  exact ⟨sd_on (unhide hO) (by simp [VM.next]) (unhide HM9), unhide HB9⟩

set_option maxRecDepth 100000 in
set_option maxHeartbeats 3200000 in
theorem sdo_one_some (B b g : Nat) (m : VM) (a : Int) (s : ByteArray) (bs : List BindV) (ab : Option Addr) (capb : Nat) (w : World) (h : SMach B b g m.st m.sl m.tk false false w) (hBw : B ≤ w.heap.size) (hpc : (m.pc : Int) ≤ 4000) (hl0 : ¬ m.st = []) (h5 : m.st.length ≤ 500) :
    Calls Tryd.prog 17 #[.pointer (some ⟨b, 0, none⟩), .agg #[.int .i64 6, .int .i64 a, .string s], .int .i64 m.pc, .slice ab bs.length capb] w fun e w' => SDone B b g (m.stepI (bvL bs) 6 a s) m.pc e w' ∧ Below B w w' := by
  obtain ⟨v, h⟩ := h
  have hlt := h.lt
  have hB := h.low
  have bA := (Below.refl w.heap.size w).alloc (Nat.le_refl _) (.cells #[.int .i64 6, .int .i64 a, .string s] 49)
  have hA := h.below bA
  have HD := hide (show SMach B b g m.st m.sl m.tk false false (w.alloc (.cells #[.int .i64 6, .int .i64 a, .string s] 49)) from ⟨v, hA⟩)
  have BA := hide ((Below.refl B w).alloc hBw (.cells #[.int .i64 6, .int .i64 a, .string s] 49))
  have c0 : (w.alloc (.cells #[.int .i64 6, .int .i64 a, .string s] 49)).cell? ⟨w.heap.size, 0, none⟩ = some (.int .i64 6) := World.cell?_alloc_at _ _ _ _ rfl
  have c1 : (w.alloc (.cells #[.int .i64 6, .int .i64 a, .string s] 49)).cell? ⟨w.heap.size, 1, none⟩ = some (.int .i64 a) := World.cell?_alloc_at _ _ _ _ rfl
  have hS := step_some (m := m) (bv := bvL bs) (a := a) (s := s) (op := 6) (by omega) hl0
  have hpos := List.length_pos_iff.2 hl0
  have hl4 : m.st.dropLast.length < 500 := by simp; omega
  generalize hlast : m.st.getLastD 0 = x at *
  have HX := hide hlast
  clear hlast
  have hO := hide (show m.stepI (bvL bs) 6 a s = .on { m.next with st := m.st.dropLast ++ [opVal a x 0] } by rw [hS]; rfl)
  clear h bA hS
  go_enter Tryd.func17, Tryd.ntmps17
  go_wp2_with fail
  generalize hW : w.alloc (.cells #[.int .i64 6, .int .i64 a, .string s] 49) = W at *
  clear hW
  have HDd := hide (unhide HD).drew
  have BAd := hide (unhide BA).drew
  have d0 : W.drew.cell? ⟨w.heap.size, 1, none⟩ = some (.int .i64 a) := c1
  clear hA
  go_region_with (first
    | (go_at_call 30; have := HM2; refine (spush_room B b g m.st.dropLast m.sl m.tk false false _ _ (unhide HM2) hl4).mono ?_; rintro e w9 ⟨rfl, hM9, hb9⟩; have HM9 := hide hM9; have HB9 := hide ((unhide HB2).trans (hb9.mono (Nat.le_refl _))); clear hM9 hb9)
    | (go_at_call 32; refine (s_pop_some B b g m.st m.sl m.tk false false _ (unhide HDd) hl0 h5).mono ?_; rw [unhide HX]; rintro e w2 ⟨rfl, hM2, hb2, hk2, hz2⟩; have HM2 := hide hM2; have HB2 := hide ((unhide BAd).trans (hb2.mono (Nat.le_refl _))); have d1 := (hk2.cell (k := w.heap.size) (j := 1) (by omega)).trans c1; clear hM2 hb2 hk2)
    | (go_at_call 33; refine (specOp_any _ _ _ _).mono ?_; rintro e wo ⟨rfl, rfl⟩))
  all_goals
    go_wp2
    go_ret
    exact ⟨sd_on (unhide hO) (by simp [VM.next]) (unhide HM9), unhide HB9⟩

set_option maxRecDepth 100000 in
set_option maxHeartbeats 3200000 in
theorem sdo_put_some (B b g : Nat) (m : VM) (a : Int) (s : ByteArray) (bs : List BindV) (ab : Option Addr) (capb : Nat) (w : World) (h : SMach B b g m.st m.sl m.tk false false w) (hBw : B ≤ w.heap.size) (hpc : (m.pc : Int) ≤ 4000) (hl0 : ¬ m.st = []) (h5 : m.st.length ≤ 500) (h0 : 0 ≤ a) (h1 : a < 80) :
    Calls Tryd.prog 17 #[.pointer (some ⟨b, 0, none⟩), .agg #[.int .i64 5, .int .i64 a, .string s], .int .i64 m.pc, .slice ab bs.length capb] w fun e w' => SDone B b g (m.stepI (bvL bs) 5 a s) m.pc e w' ∧ Below B w w' := by
  obtain ⟨v, h⟩ := h
  have hlt := h.lt
  have hB := h.low
  have bA := (Below.refl w.heap.size w).alloc (Nat.le_refl _) (.cells #[.int .i64 5, .int .i64 a, .string s] 49)
  have hA := h.below bA
  have HD := hide (show SMach B b g m.st m.sl m.tk false false (w.alloc (.cells #[.int .i64 5, .int .i64 a, .string s] 49)) from ⟨v, hA⟩)
  have BA := hide ((Below.refl B w).alloc hBw (.cells #[.int .i64 5, .int .i64 a, .string s] 49))
  have c0 : (w.alloc (.cells #[.int .i64 5, .int .i64 a, .string s] 49)).cell? ⟨w.heap.size, 0, none⟩ = some (.int .i64 5) := World.cell?_alloc_at _ _ _ _ rfl
  have c1 : (w.alloc (.cells #[.int .i64 5, .int .i64 a, .string s] 49)).cell? ⟨w.heap.size, 1, none⟩ = some (.int .i64 a) := World.cell?_alloc_at _ _ _ _ rfl
  have hS := step_some (m := m) (bv := bvL bs) (a := a) (s := s) (op := 5) (by omega) hl0
  have hpos := List.length_pos_iff.2 hl0
  have hl4 : m.st.dropLast.length < 500 := by simp; omega
  generalize hlast : m.st.getLastD 0 = x at *
  have HX := hide hlast
  clear hlast
  have hO := hide (show m.stepI (bvL bs) 5 a s = .on { m.next with st := m.st.dropLast, sl := m.sl.set a.toNat x } by rw [hS]; rfl)
  clear h bA hS
  go_enter Tryd.func17, Tryd.ntmps17
  go_wp2_with fail
  generalize hW : w.alloc (.cells #[.int .i64 5, .int .i64 a, .string s] 49) = W at *
  clear hW
  have HDd := hide (unhide HD).drew
  have BAd := hide (unhide BA).drew
  have d0 : W.drew.cell? ⟨w.heap.size, 1, none⟩ = some (.int .i64 a) := c1
  have e1 : W.drew.cell? ⟨b, 1, none⟩ = some (.slice (some ⟨g, 0, none⟩) 80 80) := hA.c1
  clear hA
  go_region_with (first
    | (go_at_call 32; refine (s_pop_some B b g m.st m.sl m.tk false false _ (unhide HDd) hl0 h5).mono ?_; rw [unhide HX]; rintro e w2 ⟨rfl, hM2, hb2, hk2, hz2⟩; obtain ⟨v2, hA2⟩ := hM2; have HP2 := hide (hA2.putSlot a.toNat (by omega) x); have HB2 := hide (((unhide BAd).trans (hb2.mono (Nat.le_refl _))).setCell (p := ⟨g, a.toNat, none⟩) (hA2.slots.lt g rfl).1 (.int .i64 x)); have d1 := (hk2.cell (k := w.heap.size) (j := 1) (by omega)).trans d0; have x1 := hA2.c1; have x2 := hA2.slot a.toNat (by omega); have x3 := hA2.sfree a.toNat; clear hA2 hb2 hk2))
  all_goals
    go_wp2
    go_ret
    exact ⟨sd_on (unhide hO) (by simp [VM.next]) ⟨_, unhide HP2⟩, unhide HB2⟩

set_option maxRecDepth 100000 in
set_option maxHeartbeats 3200000 in
theorem sdo_two_one (B b g : Nat) (m : VM) (a : Int) (s : ByteArray) (bs : List BindV) (ab : Option Addr) (capb : Nat) (w : World) (h : SMach B b g m.st m.sl m.tk false false w) (hBw : B ≤ w.heap.size) (hpc : (m.pc : Int) ≤ 4000) (hl0 : ¬ m.st = []) (h5 : m.st.length ≤ 500) (hd0 : m.st.dropLast = []) :
    Calls Tryd.prog 17 #[.pointer (some ⟨b, 0, none⟩), .agg #[.int .i64 7, .int .i64 a, .string s], .int .i64 m.pc, .slice ab bs.length capb] w fun e w' => SDone B b g (m.stepI (bvL bs) 7 a s) m.pc e w' ∧ Below B w w' := by
  obtain ⟨v, h⟩ := h
  have hlt := h.lt
  have hB := h.low
  have bA := (Below.refl w.heap.size w).alloc (Nat.le_refl _) (.cells #[.int .i64 7, .int .i64 a, .string s] 49)
  have hA := h.below bA
  have HD := hide (show SMach B b g m.st m.sl m.tk false false (w.alloc (.cells #[.int .i64 7, .int .i64 a, .string s] 49)) from ⟨v, hA⟩)
  have BA := hide ((Below.refl B w).alloc hBw (.cells #[.int .i64 7, .int .i64 a, .string s] 49))
  have c0 : (w.alloc (.cells #[.int .i64 7, .int .i64 a, .string s] 49)).cell? ⟨w.heap.size, 0, none⟩ = some (.int .i64 7) := World.cell?_alloc_at _ _ _ _ rfl
  have c1 : (w.alloc (.cells #[.int .i64 7, .int .i64 a, .string s] 49)).cell? ⟨w.heap.size, 1, none⟩ = some (.int .i64 a) := World.cell?_alloc_at _ _ _ _ rfl
  have hS := step_some (m := m) (bv := bvL bs) (a := a) (s := s) (op := 7) (by omega) hl0
  have hpos := List.length_pos_iff.2 hl0
  have hl4 : m.st.dropLast.length < 500 := by simp; omega
  generalize hlast : m.st.getLastD 0 = x at *
  have HX := hide hlast
  clear hlast
  have hO := hide (show m.stepI (bvL bs) 7 a s = .stuck by rw [hS]; unfold VM.doWith; simp [hd0])
  clear h bA hA c0 hS
  go_enter Tryd.func17, Tryd.ntmps17
  go_wp2_with (first
    | (go_at_call 30; have := HM3; refine (spush_room B b g [] m.sl m.tk false true _ _ (unhide HM3) (by simp)).mono ?_; rintro e w9 ⟨rfl, hM9, hb9⟩; have HM9 := hide hM9; have HB9 := hide ((unhide HB3).trans (hb9.mono (Nat.le_refl _))); clear hM9 hb9)
    | (go_at_call 32; have := HM2; refine (s_pop_none B b g m.sl m.tk false false _ (by have h := unhide HM2; rw [hd0] at h; exact h)).mono ?_; rintro e w3 ⟨rfl, hM3, hb3, hk3, hz3⟩; have HM3 := hide hM3; have HB3 := hide ((unhide HB2).trans (hb3.mono (Nat.le_refl _))); have e1 := (hk3.cell (k := w.heap.size) (j := 1) (by omega)).trans d1; clear hM3 hb3 hk3)
    | (go_at_call 32; refine (s_pop_some B b g m.st m.sl m.tk false false _ (unhide HD) hl0 h5).mono ?_; rw [unhide HX]; rintro e w2 ⟨rfl, hM2, hb2, hk2, hz2⟩; have HM2 := hide hM2; have HB2 := hide ((unhide BA).trans (hb2.mono (Nat.le_refl _))); have d1 := (hk2.cell (k := w.heap.size) (j := 1) (by omega)).trans c1; clear hM2 hb2 hk2)
    | (go_at_call 33; refine (specOp_any _ _ _ _).mono ?_; rintro e wo ⟨rfl, rfl⟩)
    | go_in)
  go_ret
  exact ⟨sd_off (unhide hO) (unhide HM9), unhide HB9⟩

set_option maxRecDepth 100000 in
set_option maxHeartbeats 3200000 in
theorem sdo_two_some (B b g : Nat) (m : VM) (a : Int) (s : ByteArray) (bs : List BindV) (ab : Option Addr) (capb : Nat) (w : World) (h : SMach B b g m.st m.sl m.tk false false w) (hBw : B ≤ w.heap.size) (hpc : (m.pc : Int) ≤ 4000) (hl0 : ¬ m.st = []) (h5 : m.st.length ≤ 500) (hd0 : ¬ m.st.dropLast = []) :
    Calls Tryd.prog 17 #[.pointer (some ⟨b, 0, none⟩), .agg #[.int .i64 7, .int .i64 a, .string s], .int .i64 m.pc, .slice ab bs.length capb] w fun e w' => SDone B b g (m.stepI (bvL bs) 7 a s) m.pc e w' ∧ Below B w w' := by
  obtain ⟨v, h⟩ := h
  have hlt := h.lt
  have hB := h.low
  have bA := (Below.refl w.heap.size w).alloc (Nat.le_refl _) (.cells #[.int .i64 7, .int .i64 a, .string s] 49)
  have hA := h.below bA
  have HD := hide (show SMach B b g m.st m.sl m.tk false false (w.alloc (.cells #[.int .i64 7, .int .i64 a, .string s] 49)) from ⟨v, hA⟩)
  have BA := hide ((Below.refl B w).alloc hBw (.cells #[.int .i64 7, .int .i64 a, .string s] 49))
  have c0 : (w.alloc (.cells #[.int .i64 7, .int .i64 a, .string s] 49)).cell? ⟨w.heap.size, 0, none⟩ = some (.int .i64 7) := World.cell?_alloc_at _ _ _ _ rfl
  have c1 : (w.alloc (.cells #[.int .i64 7, .int .i64 a, .string s] 49)).cell? ⟨w.heap.size, 1, none⟩ = some (.int .i64 a) := World.cell?_alloc_at _ _ _ _ rfl
  have hS := step_some (m := m) (bv := bvL bs) (a := a) (s := s) (op := 7) (by omega) hl0
  have hpos := List.length_pos_iff.2 hl0
  have hl4 : m.st.dropLast.length < 500 := by simp; omega
  generalize hlast : m.st.getLastD 0 = x at *
  have HX := hide hlast
  clear hlast
  have hl3 : m.st.dropLast.dropLast.length < 500 := by simp; omega
  generalize hlast2 : m.st.dropLast.getLastD 0 = y at *
  have HY := hide hlast2
  have hO := hide (show m.stepI (bvL bs) 7 a s = .on { m.next with st := m.st.dropLast.dropLast ++ [opVal a y x] } by rw [hS]; unfold VM.doWith; rw [if_neg (by omega), if_neg (by omega), if_neg (by omega), if_neg (by omega), if_neg (by omega), if_neg hd0, hlast2])
  clear hlast2
  clear h bA hA c0 hS
  go_enter Tryd.func17, Tryd.ntmps17
  go_wp2_with (first
    | (go_at_call 30; have := HM3; refine (spush_room B b g m.st.dropLast.dropLast m.sl m.tk false false _ _ (unhide HM3) hl3).mono ?_; rintro e w9 ⟨rfl, hM9, hb9⟩; have HM9 := hide hM9; have HB9 := hide ((unhide HB3).trans (hb9.mono (Nat.le_refl _))); clear hM9 hb9)
    | (go_at_call 32; have := HM2; refine (s_pop_some B b g m.st.dropLast m.sl m.tk false false _ (unhide HM2) hd0 (by omega)).mono ?_; rw [unhide HY]; rintro e w3 ⟨rfl, hM3, hb3, hk3, hz3⟩; have HM3 := hide hM3; have HB3 := hide ((unhide HB2).trans (hb3.mono (Nat.le_refl _))); have e1 := (hk3.cell (k := w.heap.size) (j := 1) (by omega)).trans d1; clear hM3 hb3 hk3)
    | (go_at_call 32; refine (s_pop_some B b g m.st m.sl m.tk false false _ (unhide HD) hl0 h5).mono ?_; rw [unhide HX]; rintro e w2 ⟨rfl, hM2, hb2, hk2, hz2⟩; have HM2 := hide hM2; have HB2 := hide ((unhide BA).trans (hb2.mono (Nat.le_refl _))); have d1 := (hk2.cell (k := w.heap.size) (j := 1) (by omega)).trans c1; clear hM2 hb2 hk2)
    | (go_at_call 33; refine (specOp_any _ _ _ _).mono ?_; rintro e wo ⟨rfl, rfl⟩)
    | go_in)
  go_ret
  exact ⟨sd_on (unhide hO) (by simp [VM.next]) (unhide HM9), unhide HB9⟩

end Go.Proofs.YtoehjbehfolekaaDoor
