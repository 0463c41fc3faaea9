/-
  What the specification's machine does at one instruction.
-/
import Derived.Test.YtoehjbehfolekaaDoorSMach
import Derived.Test.YtoehjbehfolekaaDoorVals
import Derived.Test.YtoehjbehfolekaaDoorCodeOk
set_option linter.unusedVariables false
namespace Go.Proofs.YtoehjbehfolekaaDoor
open Go.RowKit Go.Maps Go.Deep

/-- what the specification's machine hands back at an instruction: the next place; the marks tell the rest -/
def SDone (B b g : Nat) (o : Out) (pc : Nat) (e : Ending) (w' : World) : Prop :=
  (∃ m', o = .on m' ∧ e = .returned (.int .i64 m'.pc) ∧ SMach B b g m'.st m'.sl m'.tk false false w') ∨
  (o = .stuck ∧ ∃ (r : Int) (st sl : List Int) (tk : Nat), e = .returned (.int .i64 r) ∧ SMach B b g st sl tk false true w') ∨
  (o = .spent ∧ ∃ (st sl : List Int), e = .returned (.int .i64 pc) ∧ SMach B b g st sl 20000 true false w')
theorem sd_on {B b g : Nat} {o : Out} {pc : Nat} {m' : VM} {r : Int} {w' : World} (h : o = .on m') (hr : r = m'.pc) (hm : SMach B b g m'.st m'.sl m'.tk false false w') : SDone B b g o pc (.returned (.int .i64 r)) w' := .inl ⟨m', h, by rw [hr], hm⟩
theorem sd_off {B b g : Nat} {o : Out} {pc : Nat} {r : Int} {st sl : List Int} {tk : Nat} {w' : World} (h : o = .stuck) (hm : SMach B b g st sl tk false true w') : SDone B b g o pc (.returned (.int .i64 r)) w' := .inr (.inl ⟨h, r, st, sl, tk, rfl, hm⟩)
theorem SMach.drew {B b g : Nat} {st sl : List Int} {tk : Nat} {p q : Bool} {w : World} (h : SMach B b g st sl tk p q w) : SMach B b g st sl tk p q w.drew := by
  obtain ⟨v, h⟩ := h; exact ⟨v, h.drew⟩
/-- every block but one stands -/
def Kept (b : Nat) (w w' : World) : Prop := ∀ k, k ≠ b → w'.heap[k]? = w.heap[k]?
theorem Kept.cell {b : Nat} {w w' : World} (h : Kept b w w') {k j : Nat} (hk : k ≠ b) : w'.cell? ⟨k, j, none⟩ = w.cell? ⟨k, j, none⟩ := World.cell?_of_block (h k hk)
theorem kept_set (b j : Nat) (w : World) (u : Value) : Kept b w (w.setCell ⟨b, j, none⟩ u) := fun k hk => heap_setCell_other w ⟨b, j, none⟩ k u hk
theorem kept_set2 (b n : Nat) (w : World) (u : Value) : Kept b w ((w.drewN n).setCell ⟨b, 0, none⟩ u) := fun k hk => (heap_setCell_other (w.drewN n) ⟨b, 0, none⟩ k u hk).trans rfl
theorem s_pop_none (B b g : Nat) (sl : List Int) (tk : Nat) (p q : Bool) (w : World) (h : SMach B b g [] sl tk p q w) :
    Calls Tryd.prog 32 #[.pointer (some ⟨b, 0, none⟩)] w fun e w' => e = .returned (.int .i64 0) ∧ SMach B b g [] sl tk p true w' ∧ Below B w w' ∧ Kept b w w' ∧ w.heap.size = w'.heap.size := by
  refine (spop_none B b g sl tk p q w h).mono ?_
  rintro e w' ⟨rfl, h1, h2, j, u, rfl⟩
  exact ⟨rfl, h1, h2, kept_set _ _ _ _, by simp⟩
theorem s_pop_some (B b g : Nat) (st sl : List Int) (tk : Nat) (p q : Bool) (w : World) (h : SMach B b g st sl tk p q w) (hl : ¬ st = []) (h5 : st.length ≤ 500) :
    Calls Tryd.prog 32 #[.pointer (some ⟨b, 0, none⟩)] w fun e w' => e = .returned (.int .i64 (st.getLastD 0)) ∧ SMach B b g st.dropLast sl tk p q w' ∧ Below B w w' ∧ Kept b w w' ∧ w.heap.size = w'.heap.size := by
  refine (spop_some B b g st sl tk p q w h hl h5).mono ?_
  rintro e w' ⟨rfl, h1, h2, n, u, rfl⟩
  exact ⟨rfl, h1, h2, kept_set2 _ _ _ _, by simp⟩

/-- finding a value from the last bind on -/
theorem bvL_hit (bs : List BindV) (s : ByteArray) (k : Nat) (hk : k < bs.length) (he : bs[k].a0 = s) (hn : ∀ j (h : j < bs.length), k < j → bs[j].a0 ≠ s) : bvL bs s = bs[k].a1 := by
  have key : ∀ n, k + 1 + n ≤ bs.length → bvL (bs.take (k + 1 + n)) s = bs[k].a1 := by
    intro n
    induction n with
    | zero => intro _; rw [Nat.add_zero, bvL_take bs s k hk, if_pos he]
    | succ n ih =>
      intro h
      rw [show k + 1 + (n + 1) = (k + 1 + n) + 1 by omega, bvL_take bs s (k + 1 + n) (by omega), if_neg (hn _ (by omega) (by omega)), ih (by omega)]
  have := key (bs.length - (k + 1)) (by omega)
  rwa [show k + 1 + (bs.length - (k + 1)) = bs.length by omega, List.take_length] at this
theorem bvL_miss (bs : List BindV) (s : ByteArray) (hn : ∀ j (h : j < bs.length), bs[j].a0 ≠ s) : bvL bs s = 0 := by
  have key : ∀ n, n ≤ bs.length → bvL (bs.take n) s = 0 := by
    intro n
    induction n with
    | zero => intro _; rfl
    | succ n ih =>
      intro h
      rw [bvL_take bs s n (by omega), if_neg (hn _ (by omega)), ih (by omega)]
  have := key bs.length (Nat.le_refl _)
  rwa [List.take_length] at this

set_option maxHeartbeats 1600000 in
theorem l3Find_row (w : World) (bb off cap : Nat) (bs : List BindV) (s : ByteArray) (hl : (bs.length : Int) ≤ 40) (hc : BindAt w bb off bs) :
    Calls Tryd.prog 31 #[.slice (some ⟨bb, off, none⟩) bs.length cap, .string s] w fun e w' => e = .returned (.int .i64 (bvL bs s)) ∧ w' = w := by
  have HC := hide hc
  clear hc
  go_enter Tryd.func31, Tryd.ntmps31
  go_wp2_with fail
  go_loop [5] (fun i => ∃ k : Nat, k ≤ bs.length ∧ i = .int .i64 ((k : Int) - 1) ∧ Hid (∀ j (h : j < bs.length), k ≤ j → bs[j].a0 ≠ s)) (fun i => (intOf i + 1).toNat)
  case atStart => exact ⟨bs.length, Nat.le_refl _, rfl, fun j h hj => by omega⟩
  case round =>
    obtain ⟨k, hk, rfl, HN⟩ := hrel
    by_cases h0 : k = 0
    · subst h0
      have hf := hide (bvL_miss bs s (fun j h => unhide HN j h (by omega)))
      go_wp2_with fail
      go_ret
      exact ⟨ret_int (unhide hf).symm, rfl⟩
    · obtain ⟨i, rfl⟩ : ∃ i, k = i + 1 := ⟨k - 1, by omega⟩
      have hi : i < bs.length := by omega
      have hi' : (i : Int) < bs.length := by omega
      have ei : ((i + 1 : Nat) : Int) - 1 = i := by omega
      rw [ei]
      obtain ⟨c0, c1⟩ := unhide HC i hi
      by_cases he : bs[i].a0 = s
      · have hf := hide (bvL_hit bs s i hi he (fun j h hj => unhide HN j h (by omega)))
        rw [he] at c0
        clear he ei
        go_wp2_with fail
        go_ret
        exact ⟨ret_int (unhide hf).symm, rfl⟩
      · have he' : (bs[i].a0.toList == s.toList) = false := by rw [str_eq]; simpa using he
        have HE := hide he
        clear he ei
        go_wp2_with fail
        go_round
        case rel => exact ⟨i, by omega, rfl, hide (fun j h hj => by
          by_cases e : j = i
          · subst e; exact unhide HE
          · exact unhide HN j h (by omega))⟩
        case measure => simp [intOf]
set_option maxHeartbeats 400000 in
theorem l3Find_none (w : World) (a : Option Addr) (cap : Nat) (s : ByteArray) :
    Calls Tryd.prog 31 #[.slice a 0 cap, .string s] w fun e w' => e = .returned (.int .i64 0) ∧ w' = w := by
  go_enter Tryd.func31, Tryd.ntmps31
  go_wp2_with fail
  refine wp_loop_rounds 1 ?_
  rw [rounds_succ]
  go_wp2_with fail
  go_ret
  exact ⟨rfl, rfl⟩
theorem l3Find_any (w : World) (a : Option Addr) (cap : Nat) (bs : List BindV) (s : ByteArray) (hl : (bs.length : Int) ≤ 40) (hc : BindIn w a bs) :
    Calls Tryd.prog 31 #[.slice a bs.length cap, .string s] w fun e w' => e = .returned (.int .i64 (bvL bs s)) ∧ w' = w := by
  rcases hc with rfl | ⟨b, off, rfl, hb, hc⟩
  · exact l3Find_none w a cap s
  · exact l3Find_row w b off cap bs s hl hc


set_option maxRecDepth 100000 in
set_option maxHeartbeats 3200000 in
theorem sdo_spent (B b g : Nat) (m : VM) (a : Int) (s : ByteArray) (bs : List BindV) (ab : Option Addr) (capb : Nat) (w : World) (h : SMach B b g m.st m.sl m.tk false false w) (hBw : B ≤ w.heap.size) (hpc : (m.pc : Int) ≤ 4000) (ht : m.tk = 20000) :
    Calls Tryd.prog 17 #[.pointer (some ⟨b, 0, none⟩), .agg #[.int .i64 1, .int .i64 a, .string s], .int .i64 m.pc, .slice ab bs.length capb] w fun e w' => SDone B b g (m.stepI (bvL bs) 1 a s) m.pc e w' ∧ Below B w w' := by
  obtain ⟨v, h⟩ := h
  have hlt := h.lt
  have hB := h.low
  have hO := hide (show m.stepI (bvL bs) 1 a s = .spent by unfold VM.stepI; rw [if_pos ⟨rfl, ht⟩])
  have hP := h.put 3 (.bool true) m.st m.tk true false v rfl h.row h.apart
  have HP := hide (hP.below ((Below.refl (w.setCell ⟨b, 3, none⟩ (.bool true)).heap.size _).alloc (Nat.le_refl _) (.cells #[.int .i64 1, .int .i64 a, .string s] 49)))
  have HB := hide (((Below.refl B w).setCell (p := ⟨b, 3, none⟩) hB (.bool true)).alloc (by simpa using hBw) (.cells #[.int .i64 1, .int .i64 a, .string s] 49))
  have e2 := h.c2
  have e3 := h.c3
  have f3 := h.free 3
  rw [ht] at e2 HP
  clear h hP
  go_enter Tryd.func17, Tryd.ntmps17
  go_wp2
  go_ret
  exact ⟨.inr (.inr ⟨unhide hO, m.st, m.sl, rfl, v, unhide HP⟩), unhide HB⟩

set_option maxRecDepth 100000 in
set_option maxHeartbeats 3200000 in
theorem sdo_tick (B b g : Nat) (m : VM) (a : Int) (s : ByteArray) (bs : List BindV) (ab : Option Addr) (capb : Nat) (w : World) (h : SMach B b g m.st m.sl m.tk false false w) (hBw : B ≤ w.heap.size) (hpc : (m.pc : Int) ≤ 4000) (ht : m.tk < 20000) :
    Calls Tryd.prog 17 #[.pointer (some ⟨b, 0, none⟩), .agg #[.int .i64 1, .int .i64 a, .string s], .int .i64 m.pc, .slice ab bs.length capb] w fun e w' => SDone B b g (m.stepI (bvL bs) 1 a s) m.pc e w' ∧ Below B w w' := by
  obtain ⟨v, h⟩ := h
  have hlt := h.lt
  have hB := h.low
  have hO := hide (show m.stepI (bvL bs) 1 a s = .on { m.next with tk := m.tk + 1 } by unfold VM.stepI; rw [if_neg (by omega)]; rfl)
  have hP := h.put 2 (.int .i64 ((m.tk : Int) + 1)) m.st (m.tk + 1) false false v (by rw [← Int.natCast_succ]; rfl) h.row h.apart
  have HP := hide (hP.below ((Below.refl (w.setCell ⟨b, 2, none⟩ (.int .i64 ((m.tk : Int) + 1))).heap.size _).alloc (Nat.le_refl _) (.cells #[.int .i64 1, .int .i64 a, .string s] 49)))
  have HB := hide (((Below.refl B w).setCell (p := ⟨b, 2, none⟩) hB (.int .i64 ((m.tk : Int) + 1))).alloc (by simpa using hBw) (.cells #[.int .i64 1, .int .i64 a, .string s] 49))
  have e2 := h.c2
  have f2 := h.free 2
  have ht' : (m.tk : Int) < 20000 := by omega
  have ht2 : ((m.tk : Int) == 20000) = false := by simp; omega
  clear h hP
  go_enter Tryd.func17, Tryd.ntmps17
  go_wp2
  go_ret
  exact ⟨sd_on (unhide hO) (by simp [VM.next]) ⟨v, unhide HP⟩, unhide HB⟩

set_option maxRecDepth 100000 in
set_option maxHeartbeats 3200000 in
theorem sdo_jump (B b g : Nat) (m : VM) (a : Int) (s : ByteArray) (bs : List BindV) (ab : Option Addr) (capb : Nat) (w : World) (h : SMach B b g m.st m.sl m.tk false false w) (hBw : B ≤ w.heap.size) (hpc : (m.pc : Int) ≤ 4000) (h0 : 0 ≤ a) :
    Calls Tryd.prog 17 #[.pointer (some ⟨b, 0, none⟩), .agg #[.int .i64 8, .int .i64 a, .string s], .int .i64 m.pc, .slice ab bs.length capb] w fun e w' => SDone B b g (m.stepI (bvL bs) 8 a s) m.pc e w' ∧ Below B w w' := by
  obtain ⟨v, h⟩ := h
  have hlt := h.lt
  have hB := h.low
  obtain ⟨k, rfl⟩ := Int.eq_ofNat_of_zero_le h0
  have bA := (Below.refl w.heap.size w).alloc (Nat.le_refl _) (.cells #[.int .i64 8, .int .i64 k, .string s] 49)
  have hA := h.below bA
  have HD := hide (show SMach B b g m.st m.sl m.tk false false (w.alloc (.cells #[.int .i64 8, .int .i64 k, .string s] 49)) from ⟨v, hA⟩)
  have BA := hide ((Below.refl B w).alloc hBw (.cells #[.int .i64 8, .int .i64 k, .string s] 49))
  have c0 : (w.alloc (.cells #[.int .i64 8, .int .i64 k, .string s] 49)).cell? ⟨w.heap.size, 0, none⟩ = some (.int .i64 8) := World.cell?_alloc_at _ _ _ _ rfl
  have c1 : (w.alloc (.cells #[.int .i64 8, .int .i64 k, .string s] 49)).cell? ⟨w.heap.size, 1, none⟩ = some (.int .i64 k) := World.cell?_alloc_at _ _ _ _ rfl
  have hO := hide (show m.stepI (bvL bs) 8 (k : Int) s = .on { m.next with pc := k } by unfold VM.stepI; rw [if_neg (by omega)]; rfl)
  clear h bA hA c0 c1
  go_enter Tryd.func17, Tryd.ntmps17
  go_wp2
  go_ret
  exact ⟨sd_on (unhide hO) rfl (unhide HD), unhide BA⟩

set_option maxRecDepth 100000 in
set_option maxHeartbeats 3200000 in
theorem sdo_push_full (B b g : Nat) (m : VM) (a : Int) (s : ByteArray) (bs : List BindV) (ab : Option Addr) (capb : Nat) (w : World) (h : SMach B b g m.st m.sl m.tk false false w) (hBw : B ≤ w.heap.size) (hpc : (m.pc : Int) ≤ 4000) (hl : m.st.length = 500) :
    Calls Tryd.prog 17 #[.pointer (some ⟨b, 0, none⟩), .agg #[.int .i64 2, .int .i64 a, .string s], .int .i64 m.pc, .slice ab bs.length capb] w fun e w' => SDone B b g (m.stepI (bvL bs) 2 a s) m.pc e w' ∧ Below B w w' := by
  obtain ⟨v, h⟩ := h
  have hlt := h.lt
  have hB := h.low
  have bA := (Below.refl w.heap.size w).alloc (Nat.le_refl _) (.cells #[.int .i64 2, .int .i64 a, .string s] 49)
  have hA := h.below bA
  have HD := hide (show SMach B b g m.st m.sl m.tk false false (w.alloc (.cells #[.int .i64 2, .int .i64 a, .string s] 49)) from ⟨v, hA⟩)
  have BA := hide ((Below.refl B w).alloc hBw (.cells #[.int .i64 2, .int .i64 a, .string s] 49))
  have c0 : (w.alloc (.cells #[.int .i64 2, .int .i64 a, .string s] 49)).cell? ⟨w.heap.size, 0, none⟩ = some (.int .i64 2) := World.cell?_alloc_at _ _ _ _ rfl
  have c1 : (w.alloc (.cells #[.int .i64 2, .int .i64 a, .string s] 49)).cell? ⟨w.heap.size, 1, none⟩ = some (.int .i64 a) := World.cell?_alloc_at _ _ _ _ rfl
  have hO := hide (show m.stepI (bvL bs) 2 a s = .stuck by unfold VM.stepI; rw [if_neg (by omega)]; exact push_full hl)
  clear h bA hA c0 c1
  go_enter Tryd.func17, Tryd.ntmps17
  go_wp2_with (first
    | (go_at_call 30; refine (spush_full B b g m.st m.sl m.tk false false _ _ (unhide HD) hl).mono ?_; rintro e w2 ⟨rfl, hM, hb⟩)
    | go_in)
  have HM := hide hM
  have HB := hide ((unhide BA).trans (hb.mono (Nat.le_refl _)))
  clear hM hb
  go_wp2
  go_ret
  exact ⟨sd_off (unhide hO) (unhide HM), unhide HB⟩

set_option maxRecDepth 100000 in
set_option maxHeartbeats 3200000 in
theorem sdo_push (B b g : Nat) (m : VM) (a : Int) (s : ByteArray) (bs : List BindV) (ab : Option Addr) (capb : Nat) (w : World) (h : SMach B b g m.st m.sl m.tk false false w) (hBw : B ≤ w.heap.size) (hpc : (m.pc : Int) ≤ 4000) (hl : m.st.length < 500) :
    Calls Tryd.prog 17 #[.pointer (some ⟨b, 0, none⟩), .agg #[.int .i64 2, .int .i64 a, .string s], .int .i64 m.pc, .slice ab bs.length capb] w fun e w' => SDone B b g (m.stepI (bvL bs) 2 a s) m.pc e w' ∧ Below B w w' := by
  obtain ⟨v, h⟩ := h
  have hlt := h.lt
  have hB := h.low
  have bA := (Below.refl w.heap.size w).alloc (Nat.le_refl _) (.cells #[.int .i64 2, .int .i64 a, .string s] 49)
  have hA := h.below bA
  have HD := hide (show SMach B b g m.st m.sl m.tk false false (w.alloc (.cells #[.int .i64 2, .int .i64 a, .string s] 49)) from ⟨v, hA⟩)
  have BA := hide ((Below.refl B w).alloc hBw (.cells #[.int .i64 2, .int .i64 a, .string s] 49))
  have c0 : (w.alloc (.cells #[.int .i64 2, .int .i64 a, .string s] 49)).cell? ⟨w.heap.size, 0, none⟩ = some (.int .i64 2) := World.cell?_alloc_at _ _ _ _ rfl
  have c1 : (w.alloc (.cells #[.int .i64 2, .int .i64 a, .string s] 49)).cell? ⟨w.heap.size, 1, none⟩ = some (.int .i64 a) := World.cell?_alloc_at _ _ _ _ rfl
  have hO := hide (show m.stepI (bvL bs) 2 a s = .on { m.next with st := m.st ++ [a] } by unfold VM.stepI; rw [if_neg (by omega)]; exact push_room (m := m.next) hl)
  clear h bA hA c0 c1
  go_enter Tryd.func17, Tryd.ntmps17
  go_wp2_with (first
    | (go_at_call 30; refine (spush_room B b g m.st m.sl m.tk false false _ _ (unhide HD) hl).mono ?_; rintro e w2 ⟨rfl, hM, hb⟩)
    | go_in)
  have HM := hide hM
  have HB := hide ((unhide BA).trans (hb.mono (Nat.le_refl _)))
  clear hM hb
  go_wp2
  go_ret
  exact ⟨sd_on (unhide hO) (by simp [VM.next]) (unhide HM), unhide HB⟩


set_option maxRecDepth 100000 in
set_option maxHeartbeats 3200000 in
theorem sdo_load_full (B b g : Nat) (m : VM) (a : Int) (s : ByteArray) (bs : List BindV) (ab : Option Addr) (capb : Nat) (w : World) (h : SMach B b g m.st m.sl m.tk false false w) (hBw : B ≤ w.heap.size) (hpc : (m.pc : Int) ≤ 4000) (hl : m.st.length = 500) (hl40 : (bs.length : Int) ≤ 40) (hbs : BindIn w ab bs) :
    Calls Tryd.prog 17 #[.pointer (some ⟨b, 0, none⟩), .agg #[.int .i64 3, .int .i64 a, .string s], .int .i64 m.pc, .slice ab bs.length capb] w fun e w' => SDone B b g (m.stepI (bvL bs) 3 a s) m.pc e w' ∧ Below B w w' := by
  obtain ⟨v, h⟩ := h
  have hlt := h.lt
  have hB := h.low
  have bA := (Below.refl w.heap.size w).alloc (Nat.le_refl _) (.cells #[.int .i64 3, .int .i64 a, .string s] 49)
  have hA := h.below bA
  have HD := hide (show SMach B b g m.st m.sl m.tk false false (w.alloc (.cells #[.int .i64 3, .int .i64 a, .string s] 49)) from ⟨v, hA⟩)
  have BA := hide ((Below.refl B w).alloc hBw (.cells #[.int .i64 3, .int .i64 a, .string s] 49))
  have c0 : (w.alloc (.cells #[.int .i64 3, .int .i64 a, .string s] 49)).cell? ⟨w.heap.size, 0, none⟩ = some (.int .i64 3) := World.cell?_alloc_at _ _ _ _ rfl
  have c1 : (w.alloc (.cells #[.int .i64 3, .int .i64 a, .string s] 49)).cell? ⟨w.heap.size, 1, none⟩ = some (.int .i64 a) := World.cell?_alloc_at _ _ _ _ rfl
  have hO := hide (show m.stepI (bvL bs) 3 a s = .stuck by unfold VM.stepI; rw [if_neg (by omega)]; exact push_full hl)
  generalize hval : bvL bs s = val at hO
  have HV := hide hval
  clear hval
  have HBS := hide (hbs.below bA)
  clear hbs
  clear h bA hA c0 c1
  go_enter Tryd.func17, Tryd.ntmps17
  go_wp2_with (first
    | (go_at_call 31; refine (l3Find_any _ _ _ bs s hl40 (unhide HBS)).mono ?_; rw [unhide HV]; rintro e w1 ⟨rfl, rfl⟩)
    | (go_at_call 30; refine (spush_full B b g m.st m.sl m.tk false false _ _ (unhide HD) hl).mono ?_; rintro e w2 ⟨rfl, hM, hb⟩)
    | go_in)
  have HM := hide hM
  have HB := hide ((unhide BA).trans (hb.mono (Nat.le_refl _)))
  clear hM hb
  go_wp2
  go_ret
  exact ⟨sd_off (unhide hO) (unhide HM), unhide HB⟩

set_option maxRecDepth 100000 in
set_option maxHeartbeats 3200000 in
theorem sdo_load (B b g : Nat) (m : VM) (a : Int) (s : ByteArray) (bs : List BindV) (ab : Option Addr) (capb : Nat) (w : World) (h : SMach B b g m.st m.sl m.tk false false w) (hBw : B ≤ w.heap.size) (hpc : (m.pc : Int) ≤ 4000) (hl : m.st.length < 500) (hl40 : (bs.length : Int) ≤ 40) (hbs : BindIn w ab bs) :
    Calls Tryd.prog 17 #[.pointer (some ⟨b, 0, none⟩), .agg #[.int .i64 3, .int .i64 a, .string s], .int .i64 m.pc, .slice ab bs.length capb] w fun e w' => SDone B b g (m.stepI (bvL bs) 3 a s) m.pc e w' ∧ Below B w w' := by
  obtain ⟨v, h⟩ := h
  have hlt := h.lt
  have hB := h.low
  have bA := (Below.refl w.heap.size w).alloc (Nat.le_refl _) (.cells #[.int .i64 3, .int .i64 a, .string s] 49)
  have hA := h.below bA
  have HD := hide (show SMach B b g m.st m.sl m.tk false false (w.alloc (.cells #[.int .i64 3, .int .i64 a, .string s] 49)) from ⟨v, hA⟩)
  have BA := hide ((Below.refl B w).alloc hBw (.cells #[.int .i64 3, .int .i64 a, .string s] 49))
  have c0 : (w.alloc (.cells #[.int .i64 3, .int .i64 a, .string s] 49)).cell? ⟨w.heap.size, 0, none⟩ = some (.int .i64 3) := World.cell?_alloc_at _ _ _ _ rfl
  have c1 : (w.alloc (.cells #[.int .i64 3, .int .i64 a, .string s] 49)).cell? ⟨w.heap.size, 1, none⟩ = some (.int .i64 a) := World.cell?_alloc_at _ _ _ _ rfl
  have hO := hide (show m.stepI (bvL bs) 3 a s = .on { m.next with st := m.st ++ [bvL bs s] } by unfold VM.stepI; rw [if_neg (by omega)]; exact push_room (m := m.next) hl)
  generalize hval : bvL bs s = val at hO
  have HV := hide hval
  clear hval
  have HBS := hide (hbs.below bA)
  clear hbs
  clear h bA hA c0 c1
  go_enter Tryd.func17, Tryd.ntmps17
  go_wp2_with (first
    | (go_at_call 31; refine (l3Find_any _ _ _ bs s hl40 (unhide HBS)).mono ?_; rw [unhide HV]; rintro e w1 ⟨rfl, rfl⟩)
    | (go_at_call 30; refine (spush_room B b g m.st m.sl m.tk false false _ _ (unhide HD) hl).mono ?_; rintro e w2 ⟨rfl, hM, hb⟩)
    | go_in)
  have HM := hide hM
  have HB := hide ((unhide BA).trans (hb.mono (Nat.le_refl _)))
  clear hM hb
  go_wp2
  go_ret
  exact ⟨sd_on (unhide hO) (by simp [VM.next]) (unhide HM), unhide HB⟩


set_option maxRecDepth 100000 in
set_option maxHeartbeats 3200000 in
theorem sdo_get_full (B b g : Nat) (m : VM) (a : Int) (s : ByteArray) (bs : List BindV) (ab : Option Addr) (capb : Nat) (w : World) (h : SMach B b g m.st m.sl m.tk false false w) (hBw : B ≤ w.heap.size) (hpc : (m.pc : Int) ≤ 4000) (hl : m.st.length = 500) (h0 : 0 ≤ a) (h1 : a < 80) :
    Calls Tryd.prog 17 #[.pointer (some ⟨b, 0, none⟩), .agg #[.int .i64 4, .int .i64 a, .string s], .int .i64 m.pc, .slice ab bs.length capb] w fun e w' => SDone B b g (m.stepI (bvL bs) 4 a s) m.pc e w' ∧ Below B w w' := by
  obtain ⟨v, h⟩ := h
  have hlt := h.lt
  have hB := h.low
  have bA := (Below.refl w.heap.size w).alloc (Nat.le_refl _) (.cells #[.int .i64 4, .int .i64 a, .string s] 49)
  have hA := h.below bA
  have HD := hide (show SMach B b g m.st m.sl m.tk false false (w.alloc (.cells #[.int .i64 4, .int .i64 a, .string s] 49)) from ⟨v, hA⟩)
  have BA := hide ((Below.refl B w).alloc hBw (.cells #[.int .i64 4, .int .i64 a, .string s] 49))
  have c0 : (w.alloc (.cells #[.int .i64 4, .int .i64 a, .string s] 49)).cell? ⟨w.heap.size, 0, none⟩ = some (.int .i64 4) := World.cell?_alloc_at _ _ _ _ rfl
  have c1 : (w.alloc (.cells #[.int .i64 4, .int .i64 a, .string s] 49)).cell? ⟨w.heap.size, 1, none⟩ = some (.int .i64 a) := World.cell?_alloc_at _ _ _ _ rfl
  have hO := hide (show m.stepI (bvL bs) 4 a s = .stuck by unfold VM.stepI; rw [if_neg (by omega)]; exact push_full hl)
  generalize hval : m.sl.getD a.toNat 0 = val at hO
  have HV := hide hval
  clear hval
  clear h bA
  go_enter Tryd.func17, Tryd.ntmps17
  go_wp2_with fail
  generalize hW : w.alloc (.cells #[.int .i64 4, .int .i64 a, .string s] 49) = W at *
  clear hW
  have d1 : W.drew.cell? ⟨w.heap.size, 1, none⟩ = some (.int .i64 a) := c1
  have e1 : W.drew.cell? ⟨b, 1, none⟩ = some (.slice (some ⟨g, 0, none⟩) 80 80) := hA.c1
  have e2 : W.drew.cell? ⟨g, a.toNat, none⟩ = some (.int .i64 val) := by rw [← unhide HV]; exact hA.slot _ (by omega)
  clear hA
  go_region_with (first
    | (go_at_call 30; refine (spush_full B b g m.st m.sl m.tk false false _ _ (unhide HD).drew hl).mono ?_; rintro e w2 ⟨rfl, hM, hb⟩))
  all_goals
    have HM := hide hM
    have HB := hide ((unhide BA).drew.trans (hb.mono (Nat.le_refl _)))
    clear hM hb
    go_wp2
    go_ret
    exact ⟨sd_off (unhide hO) (unhide HM), unhide HB⟩

set_option maxRecDepth 100000 in
set_option maxHeartbeats 3200000 in
theorem sdo_get (B b g : Nat) (m : VM) (a : Int) (s : ByteArray) (bs : List BindV) (ab : Option Addr) (capb : Nat) (w : World) (h : SMach B b g m.st m.sl m.tk false false w) (hBw : B ≤ w.heap.size) (hpc : (m.pc : Int) ≤ 4000) (hl : m.st.length < 500) (h0 : 0 ≤ a) (h1 : a < 80) :
    Calls Tryd.prog 17 #[.pointer (some ⟨b, 0, none⟩), .agg #[.int .i64 4, .int .i64 a, .string s], .int .i64 m.pc, .slice ab bs.length capb] w fun e w' => SDone B b g (m.stepI (bvL bs) 4 a s) m.pc e w' ∧ Below B w w' := by
  obtain ⟨v, h⟩ := h
  have hlt := h.lt
  have hB := h.low
  have bA := (Below.refl w.heap.size w).alloc (Nat.le_refl _) (.cells #[.int .i64 4, .int .i64 a, .string s] 49)
  have hA := h.below bA
  have HD := hide (show SMach B b g m.st m.sl m.tk false false (w.alloc (.cells #[.int .i64 4, .int .i64 a, .string s] 49)) from ⟨v, hA⟩)
  have BA := hide ((Below.refl B w).alloc hBw (.cells #[.int .i64 4, .int .i64 a, .string s] 49))
  have c0 : (w.alloc (.cells #[.int .i64 4, .int .i64 a, .string s] 49)).cell? ⟨w.heap.size, 0, none⟩ = some (.int .i64 4) := World.cell?_alloc_at _ _ _ _ rfl
  have c1 : (w.alloc (.cells #[.int .i64 4, .int .i64 a, .string s] 49)).cell? ⟨w.heap.size, 1, none⟩ = some (.int .i64 a) := World.cell?_alloc_at _ _ _ _ rfl
  have hO := hide (show m.stepI (bvL bs) 4 a s = .on { m.next with st := m.st ++ [m.sl.getD a.toNat 0] } by unfold VM.stepI; rw [if_neg (by omega)]; exact push_room (m := m.next) hl)
  generalize hval : m.sl.getD a.toNat 0 = val at hO
  have HV := hide hval
  clear hval
  clear h bA
  go_enter Tryd.func17, Tryd.ntmps17
  go_wp2_with fail
  generalize hW : w.alloc (.cells #[.int .i64 4, .int .i64 a, .string s] 49) = W at *
  clear hW
  have d1 : W.drew.cell? ⟨w.heap.size, 1, none⟩ = some (.int .i64 a) := c1
  have e1 : W.drew.cell? ⟨b, 1, none⟩ = some (.slice (some ⟨g, 0, none⟩) 80 80) := hA.c1
  have e2 : W.drew.cell? ⟨g, a.toNat, none⟩ = some (.int .i64 val) := by rw [← unhide HV]; exact hA.slot _ (by omega)
  clear hA
  go_region_with (first
    | (go_at_call 30; refine (spush_room B b g m.st m.sl m.tk false false _ _ (unhide HD).drew hl).mono ?_; rintro e w2 ⟨rfl, hM, hb⟩))
  all_goals
    have HM := hide hM
    have HB := hide ((unhide BA).drew.trans (hb.mono (Nat.le_refl _)))
    clear hM hb
    go_wp2
    go_ret
    exact ⟨sd_on (unhide hO) (by simp [VM.next]) (unhide HM), unhide HB⟩


end Go.Proofs.YtoehjbehfolekaaDoor
