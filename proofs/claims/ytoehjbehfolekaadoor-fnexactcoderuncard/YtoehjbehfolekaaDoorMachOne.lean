/-
  What the program's machine does at one instruction, as it is told.
-/
import Derived.Test.YtoehjbehfolekaaDoorMachDo
set_option linter.unusedVariables false
namespace Go.Proofs.YtoehjbehfolekaaDoor
open Go.RowKit Go.Maps Go.Deep

/-- the map of values tells what a name's value is -/
def Tells (D : DataW Unit) (bv : ByteArray → Int) : Prop := ∀ s : ByteArray, D.atKey (.string s.data.toList) (.lit (.int .i64 0)) = .lit (.int .i64 (bv s))
theorem push_full {m : VM} {v : Int} (h : m.st.length = 500) : m.push v = .stuck := by unfold VM.push; rw [if_pos h]
theorem push_room {m : VM} {v : Int} (h : m.st.length < 500) : m.push v = .on { m with st := m.st ++ [v] } := by unfold VM.push; rw [if_neg (by omega)]
theorem zeroInt (w : World) : (zeroValue 3).run Tryd.prog w = .ok (.int .i64 0) w := by kernel_rfl

set_option maxRecDepth 100000 in
set_option maxHeartbeats 1600000 in
theorem do_tick (B b sg vb nb : Nat) (D : DataW Unit) (m : VM) (a : Int) (s : ByteArray) (bv : ByteArray → Int) (w : World) (h : Mach B b sg vb nb D m w) (hBw : B ≤ w.heap.size) (ht : m.tk ≤ 20000) :
    Calls Tryd.prog 41 #[.pointer (some ⟨b, 0, none⟩), .agg #[.int .i64 1, .int .i64 a, .string s]] w fun e w' => DoSaid B b sg vb nb D (m.do bv 1 a s) e w' ∧ Below B w w' := by
  obtain ⟨v, h⟩ := h
  have hlt := h.lt
  have hB := h.low
  have hO := hide (show m.do bv 1 a s = .on { m with tk := m.tk + 1 } from rfl)
  have hP := h.put 85 (.int .i64 ((m.tk : Int) + 1)) { m with tk := m.tk + 1 } v (by rw [← Int.natCast_succ]; exact set_tk _ _ _ _ _ h.len) h.len h.row h.apart
  have HP := hide (hP.below ((Below.refl (w.setCell ⟨b, 85, none⟩ (.int .i64 ((m.tk : Int) + 1))).heap.size _).alloc (Nat.le_refl _) (.cells #[.int .i64 1, .int .i64 a, .string s] 49)))
  have HB := hide (((Below.refl B w).setCell (p := ⟨b, 85, none⟩) hB (.int .i64 ((m.tk : Int) + 1))).alloc (by simpa using hBw) (.cells #[.int .i64 1, .int .i64 a, .string s] 49))
  have e1 := h.tk
  have f1 := h.free 85
  have ht' : (m.tk : Int) ≤ 20000 := by omega
  clear h hP
  go_enter Tryd.func41, Tryd.ntmps41
  go_wp2
  go_ret
  exact ⟨do_on (unhide hO) ⟨v, unhide HP⟩, unhide HB⟩

set_option maxRecDepth 100000 in
set_option maxHeartbeats 1600000 in
theorem do_jump (B b sg vb nb : Nat) (D : DataW Unit) (m : VM) (a : Int) (s : ByteArray) (bv : ByteArray → Int) (w : World) (h : Mach B b sg vb nb D m w) (hBw : B ≤ w.heap.size) (h0 : 0 ≤ a) :
    Calls Tryd.prog 41 #[.pointer (some ⟨b, 0, none⟩), .agg #[.int .i64 8, .int .i64 a, .string s]] w fun e w' => DoSaid B b sg vb nb D (m.do bv 8 a s) e w' ∧ Below B w w' := by
  obtain ⟨v, h⟩ := h
  have hlt := h.lt
  have hB := h.low
  obtain ⟨k, rfl⟩ := Int.eq_ofNat_of_zero_le h0
  have hO := hide (show m.do bv 8 (k : Int) s = .on { m with pc := k } from rfl)
  have hP := h.put 84 (.int .i64 k) { m with pc := k } v (set_pc _ _ _ _ _ h.len) h.len h.row h.apart
  have HP := hide (hP.below ((Below.refl (w.setCell ⟨b, 84, none⟩ (.int .i64 k)).heap.size _).alloc (Nat.le_refl _) (.cells #[.int .i64 8, .int .i64 k, .string s] 49)))
  have HB := hide (((Below.refl B w).setCell (p := ⟨b, 84, none⟩) hB (.int .i64 k)).alloc (by simpa using hBw) (.cells #[.int .i64 8, .int .i64 k, .string s] 49))
  have e1 := h.pc
  have f1 := h.free 84
  clear h hP
  go_enter Tryd.func41, Tryd.ntmps41
  go_wp2
  go_ret
  exact ⟨do_on (unhide hO) ⟨v, unhide HP⟩, unhide HB⟩

set_option maxRecDepth 100000 in
set_option maxHeartbeats 1600000 in
theorem do_push_full (B b sg vb nb : Nat) (D : DataW Unit) (m : VM) (a : Int) (s : ByteArray) (bv : ByteArray → Int) (w : World) (h : Mach B b sg vb nb D m w) (hBw : B ≤ w.heap.size) (hl : m.st.length = 500) :
    Calls Tryd.prog 41 #[.pointer (some ⟨b, 0, none⟩), .agg #[.int .i64 2, .int .i64 a, .string s]] w fun e w' => DoSaid B b sg vb nb D (m.do bv 2 a s) e w' ∧ Below B w w' := by
  obtain ⟨v, h⟩ := h
  have hlt := h.lt
  have hB := h.low
  have bA := (Below.refl w.heap.size w).alloc (Nat.le_refl _) (.cells #[.int .i64 2, .int .i64 a, .string s] 49)
  have hA := h.below bA
  have hzA : w.heap.size < (w.alloc (.cells #[.int .i64 2, .int .i64 a, .string s] 49)).heap.size := by simp
  have BA := hide ((Below.refl B w).alloc hBw (.cells #[.int .i64 2, .int .i64 a, .string s] 49))
  have c0 : (w.alloc (.cells #[.int .i64 2, .int .i64 a, .string s] 49)).cell? ⟨w.heap.size, 0, none⟩ = some (.int .i64 2) := World.cell?_alloc_at _ _ _ _ rfl
  have c1 : (w.alloc (.cells #[.int .i64 2, .int .i64 a, .string s] 49)).cell? ⟨w.heap.size, 1, none⟩ = some (.int .i64 a) := World.cell?_alloc_at _ _ _ _ rfl
  have c2 : (w.alloc (.cells #[.int .i64 2, .int .i64 a, .string s] 49)).cell? ⟨w.heap.size, 2, none⟩ = some (.string s) := World.cell?_alloc_at _ _ _ _ rfl
  have hO := hide (show m.do bv 2 a s = .stuck from push_full hl)
  clear h bA
  go_enter Tryd.func41, Tryd.ntmps41
  go_wp2_with fail
  generalize hW : w.alloc (.cells #[.int .i64 2, .int .i64 a, .string s] 49) = W at *
  clear hW
  have HD := hide (show Mach B b sg vb nb D m W.drew from ⟨v, hA.drew⟩)
  have d1 : W.drew.cell? ⟨w.heap.size, 1, none⟩ = some (.int .i64 a) := c1
  clear hA
  go_region_with (first
    | (go_at_call 73; refine (mpush_full B b sg vb nb D m _ _ (unhide HD) hl).mono ?_; rintro e w2 ⟨rfl, hb⟩))
  all_goals
    have HB := hide ((unhide BA).drew.trans (hb.mono (Nat.le_refl _)))
    clear hb
    go_wp2
    go_ret
    exact ⟨do_off (unhide hO), unhide HB⟩

set_option maxRecDepth 100000 in
set_option maxHeartbeats 1600000 in
theorem do_push (B b sg vb nb : Nat) (D : DataW Unit) (m : VM) (a : Int) (s : ByteArray) (bv : ByteArray → Int) (w : World) (h : Mach B b sg vb nb D m w) (hBw : B ≤ w.heap.size) (hl : m.st.length < 500) :
    Calls Tryd.prog 41 #[.pointer (some ⟨b, 0, none⟩), .agg #[.int .i64 2, .int .i64 a, .string s]] w fun e w' => DoSaid B b sg vb nb D (m.do bv 2 a s) e w' ∧ Below B w w' := by
  obtain ⟨v, h⟩ := h
  have hlt := h.lt
  have hB := h.low
  have bA := (Below.refl w.heap.size w).alloc (Nat.le_refl _) (.cells #[.int .i64 2, .int .i64 a, .string s] 49)
  have hA := h.below bA
  have hzA : w.heap.size < (w.alloc (.cells #[.int .i64 2, .int .i64 a, .string s] 49)).heap.size := by simp
  have BA := hide ((Below.refl B w).alloc hBw (.cells #[.int .i64 2, .int .i64 a, .string s] 49))
  have c0 : (w.alloc (.cells #[.int .i64 2, .int .i64 a, .string s] 49)).cell? ⟨w.heap.size, 0, none⟩ = some (.int .i64 2) := World.cell?_alloc_at _ _ _ _ rfl
  have c1 : (w.alloc (.cells #[.int .i64 2, .int .i64 a, .string s] 49)).cell? ⟨w.heap.size, 1, none⟩ = some (.int .i64 a) := World.cell?_alloc_at _ _ _ _ rfl
  have c2 : (w.alloc (.cells #[.int .i64 2, .int .i64 a, .string s] 49)).cell? ⟨w.heap.size, 2, none⟩ = some (.string s) := World.cell?_alloc_at _ _ _ _ rfl
  have hO := hide (show m.do bv 2 a s = .on { m with st := m.st ++ [a] } from push_room hl)
  clear h bA
  go_enter Tryd.func41, Tryd.ntmps41
  go_wp2_with fail
  generalize hW : w.alloc (.cells #[.int .i64 2, .int .i64 a, .string s] 49) = W at *
  clear hW
  have HD := hide (show Mach B b sg vb nb D m W.drew from ⟨v, hA.drew⟩)
  have d1 : W.drew.cell? ⟨w.heap.size, 1, none⟩ = some (.int .i64 a) := c1
  clear hA
  go_region_with (first
    | (go_at_call 73; refine (mpush_room B b sg vb nb D m _ _ (unhide HD) hl).mono ?_; rintro e w2 ⟨rfl, hM, hb⟩))
  all_goals
    have HM := hide hM
    have HB := hide ((unhide BA).drew.trans (hb.mono (Nat.le_refl _)))
    clear hM hb
    go_wp2
    go_ret
    exact ⟨do_on (unhide hO) (unhide HM), unhide HB⟩


set_option maxRecDepth 100000 in
set_option maxHeartbeats 1600000 in
theorem do_load_full (B b sg vb nb : Nat) (D : DataW Unit) (m : VM) (a : Int) (s : ByteArray) (bv : ByteArray → Int) (w : World) (h : Mach B b sg vb nb D m w) (hBw : B ≤ w.heap.size) (hl : m.st.length = 500) (htl : Tells D bv) (hs : s.size ≤ maxLen) :
    Calls Tryd.prog 41 #[.pointer (some ⟨b, 0, none⟩), .agg #[.int .i64 3, .int .i64 a, .string s]] w fun e w' => DoSaid B b sg vb nb D (m.do bv 3 a s) e w' ∧ Below B w w' := by
  obtain ⟨v, h⟩ := h
  have hlt := h.lt
  have hB := h.low
  have bA := (Below.refl w.heap.size w).alloc (Nat.le_refl _) (.cells #[.int .i64 3, .int .i64 a, .string s] 49)
  have hA := h.below bA
  have hzA : w.heap.size < (w.alloc (.cells #[.int .i64 3, .int .i64 a, .string s] 49)).heap.size := by simp
  have BA := hide ((Below.refl B w).alloc hBw (.cells #[.int .i64 3, .int .i64 a, .string s] 49))
  have c0 : (w.alloc (.cells #[.int .i64 3, .int .i64 a, .string s] 49)).cell? ⟨w.heap.size, 0, none⟩ = some (.int .i64 3) := World.cell?_alloc_at _ _ _ _ rfl
  have c1 : (w.alloc (.cells #[.int .i64 3, .int .i64 a, .string s] 49)).cell? ⟨w.heap.size, 1, none⟩ = some (.int .i64 a) := World.cell?_alloc_at _ _ _ _ rfl
  have c2 : (w.alloc (.cells #[.int .i64 3, .int .i64 a, .string s] 49)).cell? ⟨w.heap.size, 2, none⟩ = some (.string s) := World.cell?_alloc_at _ _ _ _ rfl
  have hO := hide (show m.do bv 3 a s = .stuck from push_full hl)
  generalize hval : bv s = val at hO
  have HV := hide hval
  clear hval
  clear h bA
  go_enter Tryd.func41, Tryd.ntmps41
  go_wp2_with fail
  generalize hW : w.alloc (.cells #[.int .i64 3, .int .i64 a, .string s] 49) = W at *
  clear hW
  have HD := hide (show Mach B b sg vb nb D m W.drew from ⟨v, hA.drew⟩)
  have d2 : W.drew.cell? ⟨w.heap.size, 2, none⟩ = some (.string s) := c2
  have e1 : W.drew.cell? ⟨b, 1, none⟩ = some (.map (some vb)) := hA.c1
  obtain ⟨c, hrun, hat, _⟩ := hA.drew.vals.lookup_int lawStr Tryd.underlying76 Tryd.underlying3 (zeroInt _) (WideMaps.keyOf_string_mk Tryd.underlying9 hs)
  obtain rfl : c = val := by
    rw [htl s, unhide HV] at hat
    injection hat with hat
    injection hat with _ hat
    exact hat.symm
  clear hat
  have d1 : W.drew.cell? ⟨w.heap.size, 1, none⟩ = some (.int .i64 a) := c1
  clear hA
  go_region_with (first
    | (go_at_call 73; refine (mpush_full B b sg vb nb D m _ _ (unhide HD) hl).mono ?_; rintro e w2 ⟨rfl, hb⟩))
  all_goals
    have HB := hide ((unhide BA).drew.trans (hb.mono (Nat.le_refl _)))
    clear hb
    go_wp2
    go_ret
    exact ⟨do_off (unhide hO), unhide HB⟩

set_option maxRecDepth 100000 in
set_option maxHeartbeats 1600000 in
theorem do_load (B b sg vb nb : Nat) (D : DataW Unit) (m : VM) (a : Int) (s : ByteArray) (bv : ByteArray → Int) (w : World) (h : Mach B b sg vb nb D m w) (hBw : B ≤ w.heap.size) (hl : m.st.length < 500) (htl : Tells D bv) (hs : s.size ≤ maxLen) :
    Calls Tryd.prog 41 #[.pointer (some ⟨b, 0, none⟩), .agg #[.int .i64 3, .int .i64 a, .string s]] w fun e w' => DoSaid B b sg vb nb D (m.do bv 3 a s) e w' ∧ Below B w w' := by
  obtain ⟨v, h⟩ := h
  have hlt := h.lt
  have hB := h.low
  have bA := (Below.refl w.heap.size w).alloc (Nat.le_refl _) (.cells #[.int .i64 3, .int .i64 a, .string s] 49)
  have hA := h.below bA
  have hzA : w.heap.size < (w.alloc (.cells #[.int .i64 3, .int .i64 a, .string s] 49)).heap.size := by simp
  have BA := hide ((Below.refl B w).alloc hBw (.cells #[.int .i64 3, .int .i64 a, .string s] 49))
  have c0 : (w.alloc (.cells #[.int .i64 3, .int .i64 a, .string s] 49)).cell? ⟨w.heap.size, 0, none⟩ = some (.int .i64 3) := World.cell?_alloc_at _ _ _ _ rfl
  have c1 : (w.alloc (.cells #[.int .i64 3, .int .i64 a, .string s] 49)).cell? ⟨w.heap.size, 1, none⟩ = some (.int .i64 a) := World.cell?_alloc_at _ _ _ _ rfl
  have c2 : (w.alloc (.cells #[.int .i64 3, .int .i64 a, .string s] 49)).cell? ⟨w.heap.size, 2, none⟩ = some (.string s) := World.cell?_alloc_at _ _ _ _ rfl
  have hO := hide (show m.do bv 3 a s = .on { m with st := m.st ++ [bv s] } from push_room hl)
  generalize hval : bv s = val at hO
  have HV := hide hval
  clear hval
  clear h bA
  go_enter Tryd.func41, Tryd.ntmps41
  go_wp2_with fail
  generalize hW : w.alloc (.cells #[.int .i64 3, .int .i64 a, .string s] 49) = W at *
  clear hW
  have HD := hide (show Mach B b sg vb nb D m W.drew from ⟨v, hA.drew⟩)
  have d2 : W.drew.cell? ⟨w.heap.size, 2, none⟩ = some (.string s) := c2
  have e1 : W.drew.cell? ⟨b, 1, none⟩ = some (.map (some vb)) := hA.c1
  obtain ⟨c, hrun, hat, _⟩ := hA.drew.vals.lookup_int lawStr Tryd.underlying76 Tryd.underlying3 (zeroInt _) (WideMaps.keyOf_string_mk Tryd.underlying9 hs)
  obtain rfl : c = val := by
    rw [htl s, unhide HV] at hat
    injection hat with hat
    injection hat with _ hat
    exact hat.symm
  clear hat
  have d1 : W.drew.cell? ⟨w.heap.size, 1, none⟩ = some (.int .i64 a) := c1
  clear hA
  go_region_with (first
    | (go_at_call 73; refine (mpush_room B b sg vb nb D m _ _ (unhide HD) hl).mono ?_; rintro e w2 ⟨rfl, hM, hb⟩))
  all_goals
    have HM := hide hM
    have HB := hide ((unhide BA).drew.trans (hb.mono (Nat.le_refl _)))
    clear hM hb
    go_wp2
    go_ret
    exact ⟨do_on (unhide hO) (unhide HM), unhide HB⟩


set_option maxRecDepth 100000 in
set_option maxHeartbeats 1600000 in
theorem do_get_full (B b sg vb nb : Nat) (D : DataW Unit) (m : VM) (a : Int) (s : ByteArray) (bv : ByteArray → Int) (w : World) (h : Mach B b sg vb nb D m w) (hBw : B ≤ w.heap.size) (hl : m.st.length = 500) (h0 : 0 ≤ a) (h1 : a < 80) :
    Calls Tryd.prog 41 #[.pointer (some ⟨b, 0, none⟩), .agg #[.int .i64 4, .int .i64 a, .string s]] w fun e w' => DoSaid B b sg vb nb D (m.do bv 4 a s) e w' ∧ Below B w w' := by
  obtain ⟨v, h⟩ := h
  have hlt := h.lt
  have hB := h.low
  have bA := (Below.refl w.heap.size w).alloc (Nat.le_refl _) (.cells #[.int .i64 4, .int .i64 a, .string s] 49)
  have hA := h.below bA
  have hzA : w.heap.size < (w.alloc (.cells #[.int .i64 4, .int .i64 a, .string s] 49)).heap.size := by simp
  have BA := hide ((Below.refl B w).alloc hBw (.cells #[.int .i64 4, .int .i64 a, .string s] 49))
  have c0 : (w.alloc (.cells #[.int .i64 4, .int .i64 a, .string s] 49)).cell? ⟨w.heap.size, 0, none⟩ = some (.int .i64 4) := World.cell?_alloc_at _ _ _ _ rfl
  have c1 : (w.alloc (.cells #[.int .i64 4, .int .i64 a, .string s] 49)).cell? ⟨w.heap.size, 1, none⟩ = some (.int .i64 a) := World.cell?_alloc_at _ _ _ _ rfl
  have c2 : (w.alloc (.cells #[.int .i64 4, .int .i64 a, .string s] 49)).cell? ⟨w.heap.size, 2, none⟩ = some (.string s) := World.cell?_alloc_at _ _ _ _ rfl
  have hO := hide (show m.do bv 4 a s = .stuck from push_full hl)
  generalize hval : m.sl.getD a.toNat 0 = val at hO
  have HV := hide hval
  clear hval
  clear h bA
  go_enter Tryd.func41, Tryd.ntmps41
  go_wp2_with fail
  generalize hW : w.alloc (.cells #[.int .i64 4, .int .i64 a, .string s] 49) = W at *
  clear hW
  have HD := hide (show Mach B b sg vb nb D m W.drew from ⟨v, hA.drew⟩)
  have e1 : W.drew.cell? ⟨b, 4 + a.toNat, none⟩ = some (.int .i64 val) := by rw [← unhide HV]; exact hA.slot _ (by omega)
  have d1 : W.drew.cell? ⟨w.heap.size, 1, none⟩ = some (.int .i64 a) := c1
  clear hA
  go_region_with (first
    | (go_at_call 73; refine (mpush_full B b sg vb nb D m _ _ (unhide HD) hl).mono ?_; rintro e w2 ⟨rfl, hb⟩))
  all_goals
    have HB := hide ((unhide BA).drew.trans (hb.mono (Nat.le_refl _)))
    clear hb
    go_wp2
    go_ret
    exact ⟨do_off (unhide hO), unhide HB⟩

set_option maxRecDepth 100000 in
set_option maxHeartbeats 1600000 in
theorem do_get (B b sg vb nb : Nat) (D : DataW Unit) (m : VM) (a : Int) (s : ByteArray) (bv : ByteArray → Int) (w : World) (h : Mach B b sg vb nb D m w) (hBw : B ≤ w.heap.size) (hl : m.st.length < 500) (h0 : 0 ≤ a) (h1 : a < 80) :
    Calls Tryd.prog 41 #[.pointer (some ⟨b, 0, none⟩), .agg #[.int .i64 4, .int .i64 a, .string s]] w fun e w' => DoSaid B b sg vb nb D (m.do bv 4 a s) e w' ∧ Below B w w' := by
  obtain ⟨v, h⟩ := h
  have hlt := h.lt
  have hB := h.low
  have bA := (Below.refl w.heap.size w).alloc (Nat.le_refl _) (.cells #[.int .i64 4, .int .i64 a, .string s] 49)
  have hA := h.below bA
  have hzA : w.heap.size < (w.alloc (.cells #[.int .i64 4, .int .i64 a, .string s] 49)).heap.size := by simp
  have BA := hide ((Below.refl B w).alloc hBw (.cells #[.int .i64 4, .int .i64 a, .string s] 49))
  have c0 : (w.alloc (.cells #[.int .i64 4, .int .i64 a, .string s] 49)).cell? ⟨w.heap.size, 0, none⟩ = some (.int .i64 4) := World.cell?_alloc_at _ _ _ _ rfl
  have c1 : (w.alloc (.cells #[.int .i64 4, .int .i64 a, .string s] 49)).cell? ⟨w.heap.size, 1, none⟩ = some (.int .i64 a) := World.cell?_alloc_at _ _ _ _ rfl
  have c2 : (w.alloc (.cells #[.int .i64 4, .int .i64 a, .string s] 49)).cell? ⟨w.heap.size, 2, none⟩ = some (.string s) := World.cell?_alloc_at _ _ _ _ rfl
  have hO := hide (show m.do bv 4 a s = .on { m with st := m.st ++ [m.sl.getD a.toNat 0] } from push_room hl)
  generalize hval : m.sl.getD a.toNat 0 = val at hO
  have HV := hide hval
  clear hval
  clear h bA
  go_enter Tryd.func41, Tryd.ntmps41
  go_wp2_with fail
  generalize hW : w.alloc (.cells #[.int .i64 4, .int .i64 a, .string s] 49) = W at *
  clear hW
  have HD := hide (show Mach B b sg vb nb D m W.drew from ⟨v, hA.drew⟩)
  have e1 : W.drew.cell? ⟨b, 4 + a.toNat, none⟩ = some (.int .i64 val) := by rw [← unhide HV]; exact hA.slot _ (by omega)
  have d1 : W.drew.cell? ⟨w.heap.size, 1, none⟩ = some (.int .i64 a) := c1
  clear hA
  go_region_with (first
    | (go_at_call 73; refine (mpush_room B b sg vb nb D m _ _ (unhide HD) hl).mono ?_; rintro e w2 ⟨rfl, hM, hb⟩))
  all_goals
    have HM := hide hM
    have HB := hide ((unhide BA).drew.trans (hb.mono (Nat.le_refl _)))
    clear hM hb
    go_wp2
    go_ret
    exact ⟨do_on (unhide hO) (unhide HM), unhide HB⟩


end Go.Proofs.YtoehjbehfolekaaDoor
