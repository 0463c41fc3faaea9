/-
  RecSum of both sides: the sum over bytes, from 1 on.
-/
/-
  append(nil, make([]T, n)...): an operation of its own in the model.
-/
/-
  New rows of bytes: the specification's l6Bytes, bytes.Clone, slices.Concat of two.
-/
import Derived.Test.YtddmomcanakoiaaMerged13
import Derived.Test.YtddmomcanakoiaaMerged3
import Derived.Deep.Slices
import Derived.Test.YtddmomcanakoiaaMerged28
import Derived.Lib.SliceRun
set_option linter.unusedVariables false
namespace Go.Proofs.Ytddmomcanakoiaa
open Go.RowKit Go.Maps Go.Deep

def sumStep (s : Int) (c : UInt8) : Int := (s * 257 + (c.toNat : Int)) % 65521
def recSum (bs : List UInt8) : Int := bs.foldl sumStep 1
theorem recSum_go (bs : List UInt8) (s : Int) (h : 0 ≤ s ∧ s < 65521) : 0 ≤ bs.foldl sumStep s ∧ bs.foldl sumStep s < 65521 := by
  induction bs generalizing s with
  | nil => exact h
  | cons c cs ih => exact ih _ (by unfold sumStep; omega)
theorem recSum_range (bs : List UInt8) : 0 ≤ recSum bs ∧ recSum bs < 65521 := recSum_go bs 1 (by omega)
theorem recSum_take (bs : List UInt8) (k : Nat) (h : k < bs.length) : recSum (bs.take (k + 1)) = (recSum (bs.take k) * 257 + (bs[k].toNat : Int)) % 65521 := by
  rw [List.take_succ_eq_append_getElem h]
  unfold recSum
  rw [List.foldl_append]
  rfl

set_option maxHeartbeats 1600000 in
theorem specSum_row (w : World) (b off cap : Nat) (bs : List UInt8) (hl : bs.length ≤ maxLen) (hc : ByAt w b off bs) :
    Calls Try.prog 48 #[.slice (some ⟨b, off, none⟩) bs.length cap] w fun e w' => e = .returned (.int .i64 (recSum bs)) ∧ w' = w := by
  unfold maxLen at hl
  have HC := hide hc
  clear hc
  go_enter Try.func48, Try.ntmps48
  go_wp2_with fail
  go_loop [3, 4] (fun s i => ∃ k : Nat, k ≤ bs.length ∧ i = .int .i64 k ∧ s = .int .i64 (recSum (bs.take k))) (fun _ i => bs.length - (intOf i).toNat)
  case atStart => exact ⟨0, Nat.zero_le _, rfl, rfl⟩
  case round =>
    obtain ⟨k, hk, rfl, rfl⟩ := hrel
    by_cases hlt : k < bs.length
    · have c0 := unhide HC k hlt
      obtain ⟨r0, r1⟩ := recSum_range (bs.take k)
      have HN := hide (recSum_take bs k hlt)
      have hx0 := UInt8.toNat_lt bs[k]
      generalize recSum (bs.take k) = s at *
      generalize bs[k].toNat = x at *
      go_wp2_with fail
      go_round
      case rel => exact ⟨k + 1, by omega, by go_num, by rw [unhide HN]⟩
      case measure => simp [intOf]; omega
    · go_wp2_with fail
      go_ret
      exact ⟨ret_int (by rw [List.take_of_length_le (by omega)]), rfl⟩
theorem specSum_none (w : World) (a : Option Addr) (cap : Nat) : Calls Try.prog 48 #[.slice a 0 cap] w fun e w' => e = .returned (.int .i64 1) ∧ w' = w := by
  go_enter Try.func48, Try.ntmps48
  go_wp2
  refine wp_loop_rounds 1 ?_
  rw [rounds_succ]
  go_wp2
  go_ret
  exact ⟨rfl, rfl⟩
theorem specSum_any (w : World) (v : Value) (bs : List UInt8) (hl : bs.length ≤ maxLen) (h : ByRd w v bs) : Calls Try.prog 48 #[v] w fun e w' => e = .returned (.int .i64 (recSum bs)) ∧ w' = w := by
  obtain ⟨a, cap, rfl, h, _⟩ := h
  rcases h with rfl | ⟨b, off, rfl, hb, hc⟩
  · exact specSum_none w a cap
  · exact specSum_row w b off cap bs hl hc

set_option maxHeartbeats 1600000 in
theorem overSum_row (w : World) (b off cap : Nat) (bs : List UInt8) (hl : bs.length ≤ maxLen) (hc : ByAt w b off bs) :
    Calls Try.prog 64 #[.slice (some ⟨b, off, none⟩) bs.length cap, .int .i64 1, .int .i64 257] w fun e w' => e = .returned (.int .i64 (recSum bs)) ∧ w' = w := by
  unfold maxLen at hl
  have HC := hide hc
  clear hc
  go_enter Try.func64, Try.ntmps64
  go_wp2_with fail
  go_loop [7, 13] (fun s i => ∃ k : Nat, k ≤ bs.length ∧ i = .int .i64 k ∧ s = .int .i64 (recSum (bs.take k))) (fun _ i => bs.length - (intOf i).toNat)
  case atStart => exact ⟨0, Nat.zero_le _, rfl, rfl⟩
  case round =>
    obtain ⟨k, hk, rfl, rfl⟩ := hrel
    by_cases hlt : k < bs.length
    · have c0 := unhide HC k hlt
      obtain ⟨r0, r1⟩ := recSum_range (bs.take k)
      have HN := hide (recSum_take bs k hlt)
      have hx0 := UInt8.toNat_lt bs[k]
      generalize recSum (bs.take k) = s at *
      generalize bs[k].toNat = x at *
      go_wp2_with fail
      go_round
      case rel => exact ⟨k + 1, by omega, by go_num, by rw [unhide HN]⟩
      case measure => simp [intOf]; omega
    · go_wp2_with fail
      go_ret
      exact ⟨ret_int (by rw [List.take_of_length_le (by omega)]), rfl⟩
theorem overSum_none (w : World) (a : Option Addr) (cap : Nat) : Calls Try.prog 64 #[.slice a 0 cap, .int .i64 1, .int .i64 257] w fun e w' => e = .returned (.int .i64 1) ∧ w' = w := by
  go_enter Try.func64, Try.ntmps64
  go_wp2
  refine wp_loop_rounds 1 ?_
  rw [rounds_succ]
  go_wp2
  go_ret
  exact ⟨rfl, rfl⟩
theorem overSum_any (w : World) (v : Value) (bs : List UInt8) (hl : bs.length ≤ maxLen) (h : ByRd w v bs) : Calls Try.prog 64 #[v, .int .i64 1, .int .i64 257] w fun e w' => e = .returned (.int .i64 (recSum bs)) ∧ w' = w := by
  obtain ⟨a, cap, rfl, h, _⟩ := h
  rcases h with rfl | ⟨b, off, rfl, hb, hc⟩
  · exact overSum_none w a cap
  · exact overSum_row w b off cap bs hl hc

theorem implSum_any (w : World) (v : Value) (bs : List UInt8) (hl : bs.length ≤ maxLen) (h : ByRd w v bs) : Calls Try.prog 46 #[v] w fun e w' => e = .returned (.int .i64 (recSum bs)) ∧ w' = w := by
  have HO := hide (fun W (h : ByRd W v bs) => overSum_any W v bs hl h)
  have HH := hide h
  clear h hl
  go_enter Try.func46, Try.ntmps46
  go_wp2_with fail
  refine (unhide HO _ (unhide HH)).mono ?_
  rintro e w1 ⟨rfl, hw⟩
  rw [hw]
  go_wp2_with fail
  go_ret
  exact ⟨rfl, rfl⟩
end Go.Proofs.Ytddmomcanakoiaa

set_option linter.unusedVariables false
namespace Go.Proofs.Ytddmomcanakoiaa
open Go.RowKit Go.Maps Go.Deep

/-- append(nil, make([]T, n)...) -/
theorem run_append_made {P : Program} (w : World) (t u ty e : TypeId) (i : TypeInfo) (z : Value) (ht : P.underlying t = some (.slice e)) (hu : P.underlying u = some (.int .i64)) (hi : P.info? e = some i) (hz : i.zero = some z) (hs : i.size = 1)
    (n : Nat) (h0 : 0 < n) (h63 : n ≤ 1000000) (h48 : i.bytes ≤ 1000) :
    (Builtin.append_ #[t, u] ty #[.slice none 0 0, .int .i64 (n : Int)]).run P w =
      .ok (.slice (some ⟨w.heap.size, 0, none⟩) n (grownCap w n 0 e)) (w.drew.alloc (.cells (Builtin.zeroCells z.cells n ++ Builtin.zeroCells z.cells (grownCap w n 0 e - n)) e)) := by
  have hn : n ≠ 0 := by omega
  have hw : IntKind.i64.wrap (n : Int) = n := wrap_small _ (by omega) (by omega)
  have hm : n * i.bytes ≤ 1000000 * 1000 := Nat.mul_le_mul h63 h48
  have hm' : ¬ (281474976710656 < (n : Int) * (i.bytes : Int)) := by have : ((n * i.bytes : Nat) : Int) ≤ 1000000000 := by omega
                                                                     rw [Int.natCast_mul] at this; omega
  have h63' : ¬ (9223372036854775807 < (n : Int)) := by omega
  have h48' : ¬ (281474976710656 < Builtin.nextslicecap n 0 * i.bytes) := by rw [nextslicecap_zero h0]; omega
  have hneg : ¬ (n : Int) < 0 := by omega

  have hmx : max (n : Int) 0 = n := by omega
  have has : (asIntOf (.int .i64 (n : Int))).run P w = .ok (.i64, (n : Int)) w := rfl
  simp [Builtin.append_, run_underlying ht, run_underlying hu, sizeOf, typeInfo, zeroValue, hi, hz, hs, asInt, has, hw, hneg, hmx, hm', hn, h63', h48', Question.forced, run_firstCells_none, newRow, grownCap]

theorem wpList_append_made {P : Program} {w w1 : World} {ops : Array Oper} {rest : List Oper} {o : Oper} {a : Act} {Q : Exit → Act → World → Prop} (hgd : o.guard = none) (s x : Operand) (t u : TypeId)
    (ho : o.op = .call { callee := .builtin .append, args := #[s, x], argTypes := #[t, u] }) (v y r : Value) (hs : a.eval s = v) (hx : a.eval x = y) (hr : (Builtin.append_ #[t, u] o.type #[v, y]).run P w = .ok r w1)
    (h : wpList P ops Q rest (a.put o.dst r) w1) : wpList P ops Q (o :: rest) a w := by
  refine wpList_plain hgd fun K hK => ?_
  unfold Oper.wp execOp
  simp only [ho, resolve, invoke, builtin, Sem.run_bind, Sem.run_pure, Result.andThen_ok, List.map_toArray, List.map_cons, List.map_nil, hs, hx, hr]
  exact hK _ _ h
end Go.Proofs.Ytddmomcanakoiaa

set_option linter.unusedVariables false
namespace Go.Proofs.Ytddmomcanakoiaa
open Go.RowKit Go.Maps Go.Deep

theorem byLit (w : World) (B : Nat) (hB : B ≤ w.heap.size) : ByRow B (w.alloc (.cells #[] 5)) (.slice (some ⟨w.heap.size, 0, none⟩) 0 0) [] :=
  World.ownsRow_lit (size := 1) w #[] 0 hB (by unfold maxLen; omega) rfl
/-- a new row of these bytes is handed back -/
def RetRow1 (bs : List UInt8) (w : World) (e : Ending) (w' : World) : Prop := ∃ a n c, e = .returned (.slice a n c) ∧ Hid (n = bs.length) ∧ ByRow w.heap.size w' (.slice a n c) bs ∧ Below w.heap.size w w'

set_option maxHeartbeats 1600000 in
theorem l6Bytes_any (w : World) (u v : Value) (xs ys : List UInt8) (hu : ByRd w u xs) (hv : ByRd w v ys) (hl : xs.length + ys.length ≤ 140737488355328) :
    Calls Try.prog 56 #[u, v] w fun e w' => RetRow1 (xs ++ ys) w e w' := by
  have R0 := hide (byLit w w.heap.size (Nat.le_refl _))
  have U := hide (hu.up ((Below.refl _ _).alloc (Nat.le_refl _) (.cells #[] 5)))
  have V := hide hv
  obtain ⟨a, c, rfl⟩ := hu.len
  obtain ⟨a', c', rfl⟩ := hv.len
  clear hu hv
  go_enter Try.func56, Try.ntmps56
  go_wp2_with (first
    | (at_builtin; have _t := R1; refine wpList_byAppend rfl _ _ rfl w.heap.size _ _ xs ys rfl rfl (unhide R1) (unhide V1) hl (unhide B1).size ?_; intro a2 c2 w2 r2 g2 _; have R2 := hide r2; have B2 := hide ((unhide B1).grown g2 (unhide B1).size (fun y hy => (unhide R1).ge y hy)); clear r2 g2 R1 B1 V1)
    | (at_builtin; refine wpList_byAppend rfl _ _ rfl w.heap.size _ _ [] xs rfl rfl (unhide R0) (unhide U) (by simp; omega) (by simp) ?_; simp only [List.length_nil, Nat.zero_add, List.nil_append]; intro a1 c1 w1 r1 g1 _; have R1 := hide r1; have B1 := hide ((Below.alloc (Below.refl w.heap.size w) (Nat.le_refl _) (.cells #[] 5)).grown g1 (by simp) (fun y hy => (unhide R0).ge y hy)); have V1 := hide ((unhide V).up (unhide B1)); clear r1 g1)
    | fail)
  go_ret
  exact ⟨a2, _, c2, rfl, by rw [List.length_append]; exact hide rfl, unhide R2, unhide B2⟩

set_option maxHeartbeats 1600000 in
theorem clone_any (w : World) (u : Value) (xs : List UInt8) (hu : ByRd w u xs) (hl : xs.length ≤ 140737488355328) :
    Calls Try.prog 68 #[u] w fun e w' => RetRow1 xs w e w' := by
  have q22 : ∀ (w : World) (a : Option Addr) (n c n' c' : Nat), (binOp .eql 22 (.slice a n c) (.slice none n' c')).run Try.prog w = .ok (.bool a.isNone) w := fun w a n c n' c' => Lib.run_eql_slice_nil w _ _ a n c n' c' Try.underlying22
  have R0 := hide (byLit w w.heap.size (Nat.le_refl _))
  have U := hide (hu.up ((Below.refl _ _).alloc (Nat.le_refl _) (.cells #[] 5)))
  have UI := hide hu
  obtain ⟨a, c, rfl⟩ := hu.len
  clear hu
  cases a with
  | none =>
    have hx : xs = [] := by
      obtain ⟨a, c, e, h⟩ := unhide UI
      rcases h with h | ⟨b, off, e2, _⟩
      · exact h
      · subst e2; cases e
    subst hx
    go_enter Try.func68, Try.ntmps68
    go_wp2_with fail
    go_ret
    exact ⟨none, 0, 0, rfl, hide rfl, ByRow.nil _ _, Below.refl _ _⟩
  | some ad =>
    go_enter Try.func68, Try.ntmps68
    go_wp2_with (first
      | (at_builtin; refine wpList_byAppend rfl _ _ rfl w.heap.size _ _ [] xs rfl rfl (unhide R0) (unhide U) (by simp; omega) (by simp) ?_; simp only [List.length_nil, Nat.zero_add, List.nil_append]; intro a1 c1 w1 r1 g1 _; have R1 := hide r1; have B1 := hide ((Below.alloc (Below.refl w.heap.size w) (Nat.le_refl _) (.cells #[] 5)).grown g1 (by simp) (fun y hy => (unhide R0).ge y hy)); clear r1 g1)
      | fail)
    go_ret
    exact ⟨a1, _, c1, rfl, hide rfl, unhide R1, unhide B1⟩

theorem underInt : Try.prog.underlying 3 = some (.int .i64) := Try.underlying3
set_option maxHeartbeats 800000 in
theorem growBy_pos (w : World) (n : Nat) (h1 : 1 ≤ n) (h2 : n ≤ 100000) : Calls Try.prog 74 #[.slice none 0 0, .int .i64 n] w fun e w' => ∃ a c, e = .returned (.slice a 0 c) ∧ Hid (ByRow w.heap.size w' (.slice a 0 c) [] ∧ Below w.heap.size w w') := by
  obtain ⟨i0, hi, hz0, hz1, hz2⟩ := info_parts1 infoByte
  have hrun := fun ty => run_append_made (P := Try.prog) w 22 3 ty 5 i0 _ Try.underlying22 underInt hi hz0 hz1 n (by omega) (by omega) (by omega)
  have hge := grownCap_ge w n 0 5
  have hcm : grownCap w n 0 5 ≤ maxLen := grownCap_le_maxLen w n 0 5 (by unfold maxLen; omega)
  have HP := hide (show ByRow w.heap.size (w.drew.alloc (.cells (Builtin.zeroCells (Value.cells (.int .u8 0)) n ++ Builtin.zeroCells (Value.cells (.int .u8 0)) (grownCap w n 0 5 - n)) 5)) (.slice (some ⟨w.heap.size, 0, none⟩) 0 (grownCap w n 0 5)) [] ∧ Below w.heap.size w (w.drew.alloc (.cells (Builtin.zeroCells (Value.cells (.int .u8 0)) n ++ Builtin.zeroCells (Value.cells (.int .u8 0)) (grownCap w n 0 5 - n)) 5)) from
    ⟨⟨rfl, .inr ⟨w.heap.size, _, _, rfl, Nat.le_refl _, heap_alloc_new w.drew _, Nat.zero_le _, hcm, by simp only [Array.size_append, size_zeroCells]; simp [Value.cells]; omega, by simp⟩⟩, (Below.refl w.heap.size w).drew.alloc (Nat.le_refl _) _⟩)
  generalize grownCap w n 0 5 = cap at hrun hge hcm HP
  generalize (w.drew.alloc (.cells (Builtin.zeroCells (Value.cells (.int .u8 0)) n ++ Builtin.zeroCells (Value.cells (.int .u8 0)) (cap - n)) 5)) = w1 at hrun HP
  clear hz0 hz1 hz2 hi hcm
  have HR := hide hrun
  clear hrun
  go_enter Try.func74, Try.ntmps74
  go_wp2_with (first | (at_builtin; refine wpList_append_made rfl _ _ _ _ rfl _ _ _ rfl rfl (unhide HR _) ?_) | fail)
  go_ret
  exact ⟨_, _, rfl, HP⟩
theorem growBy_any (w : World) (n : Nat) (h2 : n ≤ 100000) : Calls Try.prog 74 #[.slice none 0 0, .int .i64 n] w fun e w' => ∃ a c, e = .returned (.slice a 0 c) ∧ Hid (ByRow w.heap.size w' (.slice a 0 c) [] ∧ Below w.heap.size w w') := by
  by_cases h1 : 1 ≤ n
  · exact growBy_pos w n h1 h2
  · obtain rfl : n = 0 := by omega
    go_enter Try.func74, Try.ntmps74
    go_wp2
    go_ret
    exact ⟨_, _, rfl, hide ⟨ByRow.nil _ _, Below.refl _ _⟩⟩

set_option maxHeartbeats 1600000 in
theorem concat2_any (w : World) (sb sc : Nat) (u v : Value) (xs ys : List UInt8) (hsb : sb < w.heap.size) (h0 : w.cell? ⟨sb, 0, none⟩ = some u) (h1 : w.cell? ⟨sb, 1, none⟩ = some v) (hu : ByRd w u xs) (hv : ByRd w v ys) (hl : xs.length + ys.length ≤ 100000) :
    Calls Try.prog 62 #[.slice (some ⟨sb, 0, none⟩) 2 sc] w fun e w' => RetRow1 (xs ++ ys) w e w' := by
  have U := hide hu
  have V := hide hv
  obtain ⟨au, cu, rfl⟩ := hu.len
  obtain ⟨av, cv, rfl⟩ := hv.len
  clear hu hv
  generalize hnx : xs.length = nx at *
  generalize hny : ys.length = ny at *
  have HNX := hide hnx
  have HNY := hide hny
  clear hnx hny
  have q0 : ¬ (nx : Int) < 0 := by omega
  have q1 : ¬ (nx : Int) + (ny : Int) < 0 := by omega
  go_enter Try.func62, Try.ntmps62
  go_wp2_with fail
  refine wp_loop_rounds 3 ?_
  rw [rounds_succ]
  go_wp2_with fail
  rw [rounds_succ]
  go_wp2_with fail
  rw [rounds_succ]
  go_wp2_with fail
  refine (growBy_any w (nx + ny) (by omega)).mono ?_
  rintro e w1 ⟨a1, c1, rfl, P1⟩
  have k0 : w1.cell? ⟨sb, 0, none⟩ = some (.slice au nx cu) := ((unhide P1).2.cell (by exact hsb)).trans h0
  have K0 := hide h1
  have U1 := hide (show ByRd w1 (.slice au nx cu) xs from (unhide U).up (unhide P1).2)
  have V1 := hide (show ByRd w1 (.slice av ny cv) ys from (unhide V).up (unhide P1).2)
  clear h0 h1
  go_wp2_with fail
  refine wp_loop_rounds 3 ?_
  rw [rounds_succ]
  go_wp2_with (first
    | (at_builtin; refine wpList_byAppend rfl _ _ rfl w.heap.size _ _ [] xs rfl rfl (unhide P1).1 (unhide U1) (by rw [unhide HNX]; simp; omega) (unhide P1).2.size ?_; simp only [List.length_nil, Nat.zero_add, List.nil_append]; rw [show xs.length = nx from unhide HNX]; intro a2 c2 w2 r2 g2 _; have R2 := hide r2; have B2 := hide ((unhide P1).2.grown g2 (unhide P1).2.size (fun y hy => (unhide P1).1.ge y hy)); clear r2 g2)
    | fail)
  have k1 : w2.cell? ⟨sb, 1, none⟩ = some (.slice av ny cv) := ((unhide B2).cell (by exact hsb)).trans (unhide K0)
  have V2 := hide (show ByRd w2 (.slice av ny cv) ys from (unhide V).up (unhide B2))
  clear k0
  rw [rounds_succ]
  go_wp2_with (first
    | (at_builtin; refine wpList_byAppend rfl _ _ rfl w.heap.size _ _ xs ys rfl rfl (unhide R2) (unhide V2) (by rw [unhide HNX, unhide HNY]; omega) (unhide B2).size ?_; rw [show xs.length = nx from unhide HNX, show ys.length = ny from unhide HNY]; intro a3 c3 w3 r3 g3 _; have R3 := hide r3; have B3 := hide ((unhide B2).grown g3 (unhide B2).size (fun y hy => (unhide R2).ge y hy)); clear r3 g3)
    | fail)
  clear k1
  rw [rounds_succ]
  go_wp2_with fail
  go_ret
  exact ⟨a3, _, c3, rfl, by rw [List.length_append, unhide HNX, unhide HNY]; exact hide rfl, unhide R3, unhide B3⟩
end Go.Proofs.Ytddmomcanakoiaa
