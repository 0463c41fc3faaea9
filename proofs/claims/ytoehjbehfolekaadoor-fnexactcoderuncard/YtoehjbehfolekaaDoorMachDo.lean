/-
  What the program's machine does at one instruction.
-/
import Derived.Test.YtoehjbehfolekaaDoorMach
set_option linter.unusedVariables false
namespace Go.Proofs.YtoehjbehfolekaaDoor
open Go.RowKit Go.Maps Go.Deep

def DoSaid (B b sg vb nb : Nat) (D : DataW Unit) (o : Out) (e : Ending) (w' : World) : Prop :=
  (∃ m', o = .on m' ∧ e = .returned (.bool true) ∧ Mach B b sg vb nb D m' w') ∨ (o = .stuck ∧ e = .returned (.bool false))
theorem do_on {B b sg vb nb : Nat} {D : DataW Unit} {o : Out} {m' : VM} {w' : World} (h : o = .on m') (hm : Mach B b sg vb nb D m' w') : DoSaid B b sg vb nb D o (.returned (.bool true)) w' := .inl ⟨m', h, rfl, hm⟩
theorem do_off {B b sg vb nb : Nat} {D : DataW Unit} {o : Out} {w' : World} (h : o = .stuck) : DoSaid B b sg vb nb D o (.returned (.bool false)) w' := .inr ⟨h, rfl⟩
theorem MachAt.drew {B b sg vb nb : Nat} {D : DataW Unit} {m : VM} {v : Value} {w : World} (h : MachAt B b sg vb nb D m v w) : MachAt B b sg vb nb D m v w.drew := ⟨h.low, h.block, h.row, h.apart, h.signs, h.vals, h.len⟩
theorem Mach.drew {B b sg vb nb : Nat} {D : DataW Unit} {m : VM} {w : World} (h : Mach B b sg vb nb D m w) : Mach B b sg vb nb D m w.drew := by
  obtain ⟨v, h⟩ := h
  exact ⟨v, h.drew⟩
theorem Mach.up {B b sg vb nb : Nat} {D : DataW Unit} {m : VM} {w w' : World} (h : Mach B b sg vb nb D m w) (hb : Below w.heap.size w w') : Mach B b sg vb nb D m w' := by
  obtain ⟨v, h⟩ := h
  exact ⟨v, h.below hb⟩
theorem set_slot (sg vb : Nat) (v : Value) (m : VM) (k : Nat) (top : Int) (hk : k < m.sl.length) : (mcells sg vb v m).set (4 + k) (.int .i64 top) = mcells sg vb v { m with sl := m.sl.set k top } := by
  unfold mcells
  rw [List.set_append_right _ _ (by simp)]
  simp only [List.length_cons, List.length_nil]
  rw [show 4 + k - (0 + 1 + 1 + 1 + 1) = k by omega, List.set_append_left _ _ (by simp; omega), List.map_set]
  rfl
theorem set_pc (sg vb : Nat) (v : Value) (m : VM) (p : Nat) (h : m.sl.length = 80) : (mcells sg vb v m).set 84 (.int .i64 p) = mcells sg vb v { m with pc := p } := by
  unfold mcells
  rw [List.set_append_right _ _ (by simp), List.set_append_right _ _ (by simp [h])]
  simp [h]
theorem set_tk (sg vb : Nat) (v : Value) (m : VM) (p : Nat) (h : m.sl.length = 80) : (mcells sg vb v m).set 85 (.int .i64 p) = mcells sg vb v { m with tk := p } := by
  unfold mcells
  rw [List.set_append_right _ _ (by simp), List.set_append_right _ _ (by simp [h])]
  simp [h]

set_option maxRecDepth 100000 in
set_option maxHeartbeats 1600000 in
theorem doWith_put (B b sg vb nb : Nat) (D : DataW Unit) (m : VM) (a top : Int) (s : ByteArray) (w : World) (h : Mach B b sg vb nb D m w) (hBw : B ≤ w.heap.size) (h0 : 0 ≤ a) (h1 : a < 80) :
    Calls Tryd.prog 74 #[.pointer (some ⟨b, 0, none⟩), .agg #[.int .i64 5, .int .i64 a, .string s], .int .i64 top] w fun e w' => DoSaid B b sg vb nb D (m.doWith 5 a m.st top) e w' ∧ Below B w w' := by
  obtain ⟨v, h⟩ := h
  have hlt := h.lt
  have hB := h.low
  obtain ⟨k, rfl⟩ := Int.eq_ofNat_of_zero_le h0
  have hk : k < 80 := by omega
  have bA := (Below.refl w.heap.size w).alloc (Nat.le_refl _) (.cells #[.int .i64 5, .int .i64 k, .string s] 49)
  have hA := h.below bA
  have hzA : w.heap.size < (w.alloc (.cells #[.int .i64 5, .int .i64 k, .string s] 49)).heap.size := by simp
  have BA := hide ((Below.refl B w).alloc hBw (.cells #[.int .i64 5, .int .i64 k, .string s] 49))
  have c0 : (w.alloc (.cells #[.int .i64 5, .int .i64 k, .string s] 49)).cell? ⟨w.heap.size, 0, none⟩ = some (.int .i64 5) := World.cell?_alloc_at _ _ _ _ rfl
  have c1 : (w.alloc (.cells #[.int .i64 5, .int .i64 k, .string s] 49)).cell? ⟨w.heap.size, 1, none⟩ = some (.int .i64 k) := World.cell?_alloc_at _ _ _ _ rfl
  have c2 : (w.alloc (.cells #[.int .i64 5, .int .i64 k, .string s] 49)).cell? ⟨w.heap.size, 2, none⟩ = some (.string s) := World.cell?_alloc_at _ _ _ _ rfl
  have hO := hide (show m.doWith 5 (k : Int) m.st top = .on { m with sl := m.sl.set k top } from rfl)
  clear h bA
  go_enter Tryd.func74, Tryd.ntmps74
  go_wp2_with fail
  generalize hW : w.alloc (.cells #[.int .i64 5, .int .i64 k, .string s] 49) = W at *
  clear hW
  have HP := hide (hA.put (4 + k) (.int .i64 top) { m with sl := m.sl.set k top } v (set_slot _ _ _ _ _ _ (by rw [hA.len]; omega)) (by simp [hA.len]) hA.row hA.apart)
  have d1 : W.drew.cell? ⟨w.heap.size, 1, none⟩ = some (.int .i64 k) := c1
  have e1 : W.drew.cell? ⟨b, 4 + k, none⟩ = some (.int .i64 (m.sl.getD k 0)) := hA.slot k hk
  have f1 : W.drew.frozen? ⟨b, 4 + k, none⟩ = false := hA.free _
  clear hA
  go_region_with (fail)
  all_goals
    go_wp2
    go_ret
    exact ⟨do_on (unhide hO) ⟨v, (unhide HP).drew⟩, ((unhide BA).setCell (p := ⟨b, 4 + k, none⟩) hB _).drew⟩

set_option maxRecDepth 100000 in
set_option maxHeartbeats 1600000 in
theorem doWith_zero (B b sg vb nb : Nat) (D : DataW Unit) (m : VM) (a top : Int) (s : ByteArray) (w : World) (h : Mach B b sg vb nb D m w) (hBw : B ≤ w.heap.size) (h0 : 0 ≤ a) (ht : top = 0) :
    Calls Tryd.prog 74 #[.pointer (some ⟨b, 0, none⟩), .agg #[.int .i64 9, .int .i64 a, .string s], .int .i64 top] w fun e w' => DoSaid B b sg vb nb D (m.doWith 9 a m.st top) e w' ∧ Below B w w' := by
  obtain ⟨v, h⟩ := h
  have hlt := h.lt
  have hB := h.low
  obtain ⟨k, rfl⟩ := Int.eq_ofNat_of_zero_le h0
  subst ht
  have hO := hide (show m.doWith 9 (k : Int) m.st 0 = .on { m with pc := k } from rfl)
  have hP := h.put 84 (.int .i64 k) { m with pc := k } v (set_pc _ _ _ _ _ h.len) h.len h.row h.apart
  have HP := hide (hP.below ((Below.refl (w.setCell ⟨b, 84, none⟩ (.int .i64 k)).heap.size _).alloc (Nat.le_refl _) (.cells #[.int .i64 9, .int .i64 k, .string s] 49)))
  have HB := hide (((Below.refl B w).setCell (p := ⟨b, 84, none⟩) hB (.int .i64 k)).alloc (by simpa using hBw) (.cells #[.int .i64 9, .int .i64 k, .string s] 49))
  have e1 := h.pc
  have f1 := h.free 84
  clear h hP
  go_enter Tryd.func74, Tryd.ntmps74
  go_wp2
  go_ret
  exact ⟨do_on (unhide hO) ⟨v, unhide HP⟩, unhide HB⟩

set_option maxRecDepth 100000 in
set_option maxHeartbeats 1600000 in
theorem doWith_zero2 (B b sg vb nb : Nat) (D : DataW Unit) (m : VM) (a top : Int) (s : ByteArray) (w : World) (h : Mach B b sg vb nb D m w) (hBw : B ≤ w.heap.size) (ht : ¬ top = 0) :
    Calls Tryd.prog 74 #[.pointer (some ⟨b, 0, none⟩), .agg #[.int .i64 9, .int .i64 a, .string s], .int .i64 top] w fun e w' => DoSaid B b sg vb nb D (m.doWith 9 a m.st top) e w' ∧ Below B w w' := by
  obtain ⟨v, h⟩ := h
  have hlt := h.lt
  have hB := h.low
  have ht' : (top == 0) = false := by simpa using ht
  have bA := (Below.refl w.heap.size w).alloc (Nat.le_refl _) (.cells #[.int .i64 9, .int .i64 a, .string s] 49)
  have hA := h.below bA
  have hzA : w.heap.size < (w.alloc (.cells #[.int .i64 9, .int .i64 a, .string s] 49)).heap.size := by simp
  have BA := hide ((Below.refl B w).alloc hBw (.cells #[.int .i64 9, .int .i64 a, .string s] 49))
  have c0 : (w.alloc (.cells #[.int .i64 9, .int .i64 a, .string s] 49)).cell? ⟨w.heap.size, 0, none⟩ = some (.int .i64 9) := World.cell?_alloc_at _ _ _ _ rfl
  have c1 : (w.alloc (.cells #[.int .i64 9, .int .i64 a, .string s] 49)).cell? ⟨w.heap.size, 1, none⟩ = some (.int .i64 a) := World.cell?_alloc_at _ _ _ _ rfl
  have c2 : (w.alloc (.cells #[.int .i64 9, .int .i64 a, .string s] 49)).cell? ⟨w.heap.size, 2, none⟩ = some (.string s) := World.cell?_alloc_at _ _ _ _ rfl
  have hO := hide (show m.doWith 9 a m.st top = .on m by unfold VM.doWith; rw [if_neg (by omega), if_pos rfl]; simp only [if_neg ht])
  have HP := hide hA
  clear hA ht h bA c0 c1 c2 hzA
  go_enter Tryd.func74, Tryd.ntmps74
  go_wp2
  go_ret
  exact ⟨do_on (unhide hO) ⟨v, unhide HP⟩, unhide BA⟩

set_option maxRecDepth 100000 in
set_option maxHeartbeats 1600000 in
theorem doWith_bool (B b sg vb nb : Nat) (D : DataW Unit) (m : VM) (a top : Int) (s : ByteArray) (w : World) (h : Mach B b sg vb nb D m w) (hBw : B ≤ w.heap.size) (hl : m.st.length < 500) :
    Calls Tryd.prog 74 #[.pointer (some ⟨b, 0, none⟩), .agg #[.int .i64 10, .int .i64 a, .string s], .int .i64 top] w fun e w' => DoSaid B b sg vb nb D (m.doWith 10 a m.st top) e w' ∧ Below B w w' := by
  obtain ⟨v, h⟩ := h
  have hlt := h.lt
  have hB := h.low
  have bA := (Below.refl w.heap.size w).alloc (Nat.le_refl _) (.cells #[.int .i64 10, .int .i64 a, .string s] 49)
  have hA := h.below bA
  have hzA : w.heap.size < (w.alloc (.cells #[.int .i64 10, .int .i64 a, .string s] 49)).heap.size := by simp
  have BA := hide ((Below.refl B w).alloc hBw (.cells #[.int .i64 10, .int .i64 a, .string s] 49))
  have c0 : (w.alloc (.cells #[.int .i64 10, .int .i64 a, .string s] 49)).cell? ⟨w.heap.size, 0, none⟩ = some (.int .i64 10) := World.cell?_alloc_at _ _ _ _ rfl
  have c1 : (w.alloc (.cells #[.int .i64 10, .int .i64 a, .string s] 49)).cell? ⟨w.heap.size, 1, none⟩ = some (.int .i64 a) := World.cell?_alloc_at _ _ _ _ rfl
  have c2 : (w.alloc (.cells #[.int .i64 10, .int .i64 a, .string s] 49)).cell? ⟨w.heap.size, 2, none⟩ = some (.string s) := World.cell?_alloc_at _ _ _ _ rfl
  have hO := hide (show m.doWith 10 a m.st top = .on { m with st := m.st ++ [bi (top != 0)] } from rfl)
  clear h bA
  go_enter Tryd.func74, Tryd.ntmps74
  go_wp2_with fail
  generalize hW : w.alloc (.cells #[.int .i64 10, .int .i64 a, .string s] 49) = W at *
  clear hW
  have HD := hide (show Mach B b sg vb nb D m W.drew from ⟨v, hA.drew⟩)
  have HS := hide hA.drew.signs
  have e0 : W.drew.cell? ⟨b, 0, none⟩ = some (.map (some sg)) := hA.c0
  have d1 : W.drew.cell? ⟨w.heap.size, 1, none⟩ = some (.int .i64 a) := c1
  clear hA
  go_region_with (first
    | (go_at_call 56; refine (implTruth_any _ _).mono ?_; rintro e w1 ⟨rfl, rfl⟩)
    | (go_at_call 73; refine (mpush_room B b sg vb nb D m _ _ (unhide HD) hl).mono ?_; rintro e w2 ⟨rfl, hM, hb⟩))
  all_goals
    have HM := hide hM
    have HB := hide ((unhide BA).drew.trans (hb.mono (Nat.le_refl _)))
    clear hM hb
    go_wp2
    go_ret
    exact ⟨do_on (unhide hO) (unhide HM), unhide HB⟩

set_option maxRecDepth 100000 in
set_option maxHeartbeats 1600000 in
theorem doWith_one (B b sg vb nb : Nat) (D : DataW Unit) (m : VM) (a top : Int) (s : ByteArray) (w : World) (h : Mach B b sg vb nb D m w) (hBw : B ≤ w.heap.size) (hl : m.st.length < 500) (hra : ranged a) (hrt : ranged top) :
    Calls Tryd.prog 74 #[.pointer (some ⟨b, 0, none⟩), .agg #[.int .i64 6, .int .i64 a, .string s], .int .i64 top] w fun e w' => DoSaid B b sg vb nb D (m.doWith 6 a m.st top) e w' ∧ Below B w w' := by
  obtain ⟨v, h⟩ := h
  have hlt := h.lt
  have hB := h.low
  have bA := (Below.refl w.heap.size w).alloc (Nat.le_refl _) (.cells #[.int .i64 6, .int .i64 a, .string s] 49)
  have hA := h.below bA
  have hzA : w.heap.size < (w.alloc (.cells #[.int .i64 6, .int .i64 a, .string s] 49)).heap.size := by simp
  have BA := hide ((Below.refl B w).alloc hBw (.cells #[.int .i64 6, .int .i64 a, .string s] 49))
  have c0 : (w.alloc (.cells #[.int .i64 6, .int .i64 a, .string s] 49)).cell? ⟨w.heap.size, 0, none⟩ = some (.int .i64 6) := World.cell?_alloc_at _ _ _ _ rfl
  have c1 : (w.alloc (.cells #[.int .i64 6, .int .i64 a, .string s] 49)).cell? ⟨w.heap.size, 1, none⟩ = some (.int .i64 a) := World.cell?_alloc_at _ _ _ _ rfl
  have c2 : (w.alloc (.cells #[.int .i64 6, .int .i64 a, .string s] 49)).cell? ⟨w.heap.size, 2, none⟩ = some (.string s) := World.cell?_alloc_at _ _ _ _ rfl
  have hO := hide (show m.doWith 6 a m.st top = .on { m with st := m.st ++ [opVal a top 0] } from rfl)
  clear h bA
  go_enter Tryd.func74, Tryd.ntmps74
  go_wp2_with fail
  generalize hW : w.alloc (.cells #[.int .i64 6, .int .i64 a, .string s] 49) = W at *
  clear hW
  have HD := hide (show Mach B b sg vb nb D m W.drew from ⟨v, hA.drew⟩)
  have HS := hide hA.drew.signs
  have e0 : W.drew.cell? ⟨b, 0, none⟩ = some (.map (some sg)) := hA.c0
  have d1 : W.drew.cell? ⟨w.heap.size, 1, none⟩ = some (.int .i64 a) := c1
  clear hA
  go_region_with (first
    | (go_at_call 78; refine (of_any _ sg a top 0 hra hrt (unhide HS)).mono ?_; rintro e w1 ⟨rfl, rfl⟩)
    | (go_at_call 73; refine (mpush_room B b sg vb nb D m _ _ (unhide HD) hl).mono ?_; rintro e w2 ⟨rfl, hM, hb⟩))
  all_goals
    have HM := hide hM
    have HB := hide ((unhide BA).drew.trans (hb.mono (Nat.le_refl _)))
    clear hM hb
    go_wp2
    go_ret
    exact ⟨do_on (unhide hO) (unhide HM), unhide HB⟩

set_option maxRecDepth 100000 in
set_option maxHeartbeats 1600000 in
theorem doWith_times_lo (B b sg vb nb : Nat) (D : DataW Unit) (m : VM) (a top : Int) (s : ByteArray) (w : World) (h : Mach B b sg vb nb D m w) (hBw : B ≤ w.heap.size) (hl : m.st.length < 500) (t0 : top < 0) :
    Calls Tryd.prog 74 #[.pointer (some ⟨b, 0, none⟩), .agg #[.int .i64 11, .int .i64 a, .string s], .int .i64 top] w fun e w' => DoSaid B b sg vb nb D (m.doWith 11 a m.st top) e w' ∧ Below B w w' := by
  obtain ⟨v, h⟩ := h
  have hlt := h.lt
  have hB := h.low
  have bA := (Below.refl w.heap.size w).alloc (Nat.le_refl _) (.cells #[.int .i64 11, .int .i64 a, .string s] 49)
  have hA := h.below bA
  have hzA : w.heap.size < (w.alloc (.cells #[.int .i64 11, .int .i64 a, .string s] 49)).heap.size := by simp
  have BA := hide ((Below.refl B w).alloc hBw (.cells #[.int .i64 11, .int .i64 a, .string s] 49))
  have c0 : (w.alloc (.cells #[.int .i64 11, .int .i64 a, .string s] 49)).cell? ⟨w.heap.size, 0, none⟩ = some (.int .i64 11) := World.cell?_alloc_at _ _ _ _ rfl
  have c1 : (w.alloc (.cells #[.int .i64 11, .int .i64 a, .string s] 49)).cell? ⟨w.heap.size, 1, none⟩ = some (.int .i64 a) := World.cell?_alloc_at _ _ _ _ rfl
  have c2 : (w.alloc (.cells #[.int .i64 11, .int .i64 a, .string s] 49)).cell? ⟨w.heap.size, 2, none⟩ = some (.string s) := World.cell?_alloc_at _ _ _ _ rfl
  have hO := hide (show m.doWith 11 a m.st top = .on { m with st := m.st ++ [0] } by unfold VM.doWith; rw [if_neg (by omega), if_neg (by omega), if_neg (by omega), if_pos rfl]; rw [if_pos t0])
  have HD := hide (show Mach B b sg vb nb D m (w.alloc (.cells #[.int .i64 11, .int .i64 a, .string s] 49)) from ⟨v, hA⟩)
  clear hA h bA c0 c1 c2
  go_enter Tryd.func74, Tryd.ntmps74
  go_wp2_with (first
    | (go_at_call 73; refine (mpush_room B b sg vb nb D m _ _ (unhide HD) hl).mono ?_; rintro e w2 ⟨rfl, hM, hb⟩)
    | go_in)
  have HM := hide hM
  have HB := hide ((unhide BA).trans (hb.mono (Nat.le_refl _)))
  clear hM hb
  go_ret
  exact ⟨do_on (unhide hO) (unhide HM), unhide HB⟩

set_option maxRecDepth 100000 in
set_option maxHeartbeats 1600000 in
theorem doWith_times_hi (B b sg vb nb : Nat) (D : DataW Unit) (m : VM) (a top : Int) (s : ByteArray) (w : World) (h : Mach B b sg vb nb D m w) (hBw : B ≤ w.heap.size) (hl : m.st.length < 500) (t0 : ¬ top < 0) (t1 : 64 < top) :
    Calls Tryd.prog 74 #[.pointer (some ⟨b, 0, none⟩), .agg #[.int .i64 11, .int .i64 a, .string s], .int .i64 top] w fun e w' => DoSaid B b sg vb nb D (m.doWith 11 a m.st top) e w' ∧ Below B w w' := by
  obtain ⟨v, h⟩ := h
  have hlt := h.lt
  have hB := h.low
  have bA := (Below.refl w.heap.size w).alloc (Nat.le_refl _) (.cells #[.int .i64 11, .int .i64 a, .string s] 49)
  have hA := h.below bA
  have hzA : w.heap.size < (w.alloc (.cells #[.int .i64 11, .int .i64 a, .string s] 49)).heap.size := by simp
  have BA := hide ((Below.refl B w).alloc hBw (.cells #[.int .i64 11, .int .i64 a, .string s] 49))
  have c0 : (w.alloc (.cells #[.int .i64 11, .int .i64 a, .string s] 49)).cell? ⟨w.heap.size, 0, none⟩ = some (.int .i64 11) := World.cell?_alloc_at _ _ _ _ rfl
  have c1 : (w.alloc (.cells #[.int .i64 11, .int .i64 a, .string s] 49)).cell? ⟨w.heap.size, 1, none⟩ = some (.int .i64 a) := World.cell?_alloc_at _ _ _ _ rfl
  have c2 : (w.alloc (.cells #[.int .i64 11, .int .i64 a, .string s] 49)).cell? ⟨w.heap.size, 2, none⟩ = some (.string s) := World.cell?_alloc_at _ _ _ _ rfl
  have hO := hide (show m.doWith 11 a m.st top = .on { m with st := m.st ++ [64] } by unfold VM.doWith; rw [if_neg (by omega), if_neg (by omega), if_neg (by omega), if_pos rfl]; rw [if_neg t0, if_pos t1])
  have HD := hide (show Mach B b sg vb nb D m (w.alloc (.cells #[.int .i64 11, .int .i64 a, .string s] 49)) from ⟨v, hA⟩)
  clear hA h bA c0 c1 c2
  go_enter Tryd.func74, Tryd.ntmps74
  go_wp2_with (first
    | (go_at_call 73; refine (mpush_room B b sg vb nb D m _ _ (unhide HD) hl).mono ?_; rintro e w2 ⟨rfl, hM, hb⟩)
    | go_in)
  have HM := hide hM
  have HB := hide ((unhide BA).trans (hb.mono (Nat.le_refl _)))
  clear hM hb
  go_ret
  exact ⟨do_on (unhide hO) (unhide HM), unhide HB⟩

set_option maxRecDepth 100000 in
set_option maxHeartbeats 1600000 in
theorem doWith_times_in (B b sg vb nb : Nat) (D : DataW Unit) (m : VM) (a top : Int) (s : ByteArray) (w : World) (h : Mach B b sg vb nb D m w) (hBw : B ≤ w.heap.size) (hl : m.st.length < 500) (t0 : ¬ top < 0) (t1 : ¬ 64 < top) :
    Calls Tryd.prog 74 #[.pointer (some ⟨b, 0, none⟩), .agg #[.int .i64 11, .int .i64 a, .string s], .int .i64 top] w fun e w' => DoSaid B b sg vb nb D (m.doWith 11 a m.st top) e w' ∧ Below B w w' := by
  obtain ⟨v, h⟩ := h
  have hlt := h.lt
  have hB := h.low
  have bA := (Below.refl w.heap.size w).alloc (Nat.le_refl _) (.cells #[.int .i64 11, .int .i64 a, .string s] 49)
  have hA := h.below bA
  have hzA : w.heap.size < (w.alloc (.cells #[.int .i64 11, .int .i64 a, .string s] 49)).heap.size := by simp
  have BA := hide ((Below.refl B w).alloc hBw (.cells #[.int .i64 11, .int .i64 a, .string s] 49))
  have c0 : (w.alloc (.cells #[.int .i64 11, .int .i64 a, .string s] 49)).cell? ⟨w.heap.size, 0, none⟩ = some (.int .i64 11) := World.cell?_alloc_at _ _ _ _ rfl
  have c1 : (w.alloc (.cells #[.int .i64 11, .int .i64 a, .string s] 49)).cell? ⟨w.heap.size, 1, none⟩ = some (.int .i64 a) := World.cell?_alloc_at _ _ _ _ rfl
  have c2 : (w.alloc (.cells #[.int .i64 11, .int .i64 a, .string s] 49)).cell? ⟨w.heap.size, 2, none⟩ = some (.string s) := World.cell?_alloc_at _ _ _ _ rfl
  have hO := hide (show m.doWith 11 a m.st top = .on { m with st := m.st ++ [top] } by unfold VM.doWith; rw [if_neg (by omega), if_neg (by omega), if_neg (by omega), if_pos rfl]; rw [if_neg t0, if_neg t1])
  have HD := hide (show Mach B b sg vb nb D m (w.alloc (.cells #[.int .i64 11, .int .i64 a, .string s] 49)) from ⟨v, hA⟩)
  clear hA h bA c0 c1 c2
  go_enter Tryd.func74, Tryd.ntmps74
  go_wp2_with (first
    | (go_at_call 73; refine (mpush_room B b sg vb nb D m _ _ (unhide HD) hl).mono ?_; rintro e w2 ⟨rfl, hM, hb⟩)
    | go_in)
  have HM := hide hM
  have HB := hide ((unhide BA).trans (hb.mono (Nat.le_refl _)))
  clear hM hb
  go_ret
  exact ⟨do_on (unhide hO) (unhide HM), unhide HB⟩

end Go.Proofs.YtoehjbehfolekaaDoor
