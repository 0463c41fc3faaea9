/-
  Texts in order, byte by byte.
-/
/-
  Words between nodes as values: which may be.
-/
/-
  SaySum of both sides: the sum over bytes, from 7 on.
-/
/-
  append(nil, make([]T, n)...): an operation of its own in the model.
-/
/-
  New rows of bytes: the specification's l6Bytes, bytes.Clone, slices.Concat of two.
-/
import Derived.Test.YtiebfcefmdiajaaGreatDoorMerged3
import Derived.Laws.Cover1
import Derived.Test.YtiebfcefmdiajaaGreatDoorMerged6
import Derived.Test.YtiebfcefmdiajaaGreatDoorMerged4
import Derived.Deep.Slices
import Derived.Test.YtiebfcefmdiajaaGreatDoorMerged5
import Derived.Lib.SliceRun
set_option linter.unusedVariables false
namespace Go.Proofs.YtiebfcefmdiajaaGreatDoor
open Go.RowKit

def lessS (a b : ByteArray) : Bool := Op.bytesLess a.toList b.toList
theorem less_other (x y : List UInt8) : (Op.bytesLess x y || x == y) = !Op.bytesLess y x := by
  induction x generalizing y with
  | nil => cases y <;> simp [Op.bytesLess]
  | cons a x ih =>
    cases y with
    | nil => simp [Op.bytesLess]
    | cons b y =>
      simp only [Op.bytesLess, List.cons_beq_cons]
      have := ih y
      by_cases h1 : a < b
      · have h2 : ¬ b < a := by simp only [UInt8.lt_iff_toNat_lt] at *; omega
        have h3 : (b == a) = false := by rw [beq_eq_false_iff_ne]; intro e; subst e; exact h2 h1
        simp [h1, h2, h3]
      · by_cases h2 : b < a
        · have h3 : (a == b) = false := by rw [beq_eq_false_iff_ne]; intro e; subst e; exact h1 h2
          simp [h1, h2, h3]
        · have h3 : a = b := by
            rw [← UInt8.toNat_inj]
            simp only [UInt8.lt_iff_toNat_lt] at *
            omega
          subst h3
          simp [h1]
          exact this
theorem geq_leq (a b : ByteArray) : (Op.bytesLess a.toList b.toList || a.toList == b.toList) = !lessS b a := less_other _ _
theorem str_same (a b : ByteArray) : (a.toList == b.toList) = decide (a = b) := by
  rw [ByteArray.toList_eq, ByteArray.toList_eq, Bool.eq_iff_iff]
  simp
  constructor
  · intro h; cases a; cases b; simp_all
  · rintro rfl; rfl
end Go.Proofs.YtiebfcefmdiajaaGreatDoor

set_option linter.unusedVariables false
namespace Go.Proofs.YtiebfcefmdiajaaGreatDoor
open Go.RowKit Go.Maps Go.Deep

def verB (x : VerV) : Bool := plainB x.a0 && decide (1 ≤ x.a1) && decide (x.a1 ≤ 1099511627776)
/-- the first k are versions, and each stands behind the one ahead of it -/
def StampTo (ns : List VerV) (k : Nat) : Prop := ∀ i (h : i < ns.length), i < k → verB ns[i] = true ∧ (0 < i → lessS (ns[i - 1]'(by omega)).a0 ns[i].a0 = true)
instance (ns : List VerV) (k : Nat) : Decidable (StampTo ns k) := by unfold StampTo; infer_instance
def stampB (ns : List VerV) : Bool := decide (ns.length ≤ 12) && decide (StampTo ns ns.length)
theorem stamp_zero (ns : List VerV) : StampTo ns 0 := fun i h hi => absurd hi (Nat.not_lt_zero _)
theorem stamp_bad {ns : List VerV} {k : Nat} (hk : k < ns.length) (h : verB ns[k] = false) : stampB ns = false := by
  have : ¬ StampTo ns ns.length := fun g => by
    have := (g k hk hk).1
    rw [h] at this
    cases this
  simp [stampB, this]
theorem stamp_down {ns : List VerV} {k : Nat} (hk : k + 1 < ns.length) (h : lessS ns[k].a0 ns[k + 1].a0 = false) : stampB ns = false := by
  have : ¬ StampTo ns ns.length := fun g => by
    have := (g (k + 1) hk hk).2 (by omega)
    simp only [Nat.add_sub_cancel] at this
    rw [h] at this
    cases this
  simp [stampB, this]
theorem stamp_step0 {ns : List VerV} (hk : 0 < ns.length) (h : verB ns[0] = true) : StampTo ns 1 := by
  intro i hi hik
  obtain rfl : i = 0 := by omega
  exact ⟨h, fun h => absurd h (Nat.lt_irrefl _)⟩
theorem stamp_step {ns : List VerV} {k : Nat} (hk : k + 1 < ns.length) (hg : StampTo ns (k + 1)) (h : verB ns[k + 1] = true) (hl : lessS ns[k].a0 ns[k + 1].a0 = true) : StampTo ns (k + 2) := by
  intro i hi hik
  by_cases e : i = k + 1
  · subst e
    refine ⟨h, fun _ => ?_⟩
    simpa using hl
  · exact hg i hi (by omega)
theorem stamp_good {ns : List VerV} (h12 : ns.length ≤ 12) (h : StampTo ns ns.length) : stampB ns = true := by simp [stampB, h12, h]
theorem stamp_long {ns : List VerV} (h12 : ¬ ns.length ≤ 12) : stampB ns = false := by simp [stampB, h12]
/-- what a version's test comes to -/
theorem ver_cases (x : VerV) : (verB x = true ∧ plainB x.a0 = true ∧ ¬ x.a1 < 1 ∧ ¬ 1099511627776 < x.a1) ∨ (verB x = false ∧ (plainB x.a0 = false ∨ (plainB x.a0 = true ∧ x.a1 < 1) ∨ (plainB x.a0 = true ∧ ¬ x.a1 < 1 ∧ 1099511627776 < x.a1))) := by
  unfold verB
  cases plainB x.a0
  · right; simp
  · by_cases h1 : x.a1 < 1
    · right; simp; omega
    · by_cases h2 : 1099511627776 < x.a1
      · right; simp; omega
      · left; simp; omega
structure SayV where
  kind : Int
  src : Int
  dst : Int
  name : ByteArray
  val : Int
  stamp : List VerV
def nodeB (n : Int) : Bool := decide (0 ≤ n) && decide (n ≤ 9)
def tailB (s : SayV) : Bool := if s.kind = 2 then decide (1 ≤ s.stamp.length) && stampB s.stamp else if s.kind = 1 ∨ s.kind = 3 then decide (s.val = 0) && decide (s.stamp.length = 0) else false
def sayOkB (s : SayV) : Bool := decide (s.src ≠ s.dst) && nodeB s.src && nodeB s.dst && plainB s.name && tailB s
end Go.Proofs.YtiebfcefmdiajaaGreatDoor

set_option linter.unusedVariables false
namespace Go.Proofs.YtiebfcefmdiajaaGreatDoor
open Go.RowKit Go.Maps Go.Deep

def sumStep7 (s : Int) (c : UInt8) : Int := (s * 263 + (c.toNat : Int)) % 65521
def saySum (bs : List UInt8) : Int := bs.foldl sumStep7 7
theorem saySum_go (bs : List UInt8) (s : Int) (h : 0 ≤ s ∧ s < 65521) : 0 ≤ bs.foldl sumStep7 s ∧ bs.foldl sumStep7 s < 65521 := by
  induction bs generalizing s with
  | nil => exact h
  | cons c cs ih => exact ih _ (by unfold sumStep7; omega)
theorem saySum_range (bs : List UInt8) : 0 ≤ saySum bs ∧ saySum bs < 65521 := saySum_go bs 7 (by omega)
theorem saySum_take (bs : List UInt8) (k : Nat) (h : k < bs.length) : saySum (bs.take (k + 1)) = (saySum (bs.take k) * 263 + (bs[k].toNat : Int)) % 65521 := by
  rw [List.take_succ_eq_append_getElem h]
  unfold saySum
  rw [List.foldl_append]
  rfl

set_option maxHeartbeats 1600000 in
theorem specSSum_row (w : World) (b off cap : Nat) (bs : List UInt8) (hl : bs.length ≤ maxLen) (hc : ByAt w b off bs) :
    Calls Tryz.prog 66 #[.slice (some ⟨b, off, none⟩) bs.length cap] w fun e w' => e = .returned (.int .i64 (saySum bs)) ∧ w' = w := by
  unfold maxLen at hl
  have HC := hide hc
  clear hc
  go_enter Tryz.func66, Tryz.ntmps66
  go_wp2_with fail
  go_loop [3, 4] (fun s i => ∃ k : Nat, k ≤ bs.length ∧ i = .int .i64 k ∧ s = .int .i64 (saySum (bs.take k))) (fun _ i => bs.length - (intOf i).toNat)
  case atStart => exact ⟨0, Nat.zero_le _, rfl, rfl⟩
  case round =>
    obtain ⟨k, hk, rfl, rfl⟩ := hrel
    by_cases hlt : k < bs.length
    · have c0 := unhide HC k hlt
      obtain ⟨r0, r1⟩ := saySum_range (bs.take k)
      have HN := hide (saySum_take bs k hlt)
      have hx0 := UInt8.toNat_lt bs[k]
      generalize saySum (bs.take k) = s at *
      generalize bs[k].toNat = x at *
      go_wp2_with fail
      go_round
      case rel => exact ⟨k + 1, by omega, by go_num, by rw [unhide HN]⟩
      case measure => simp [intOf]; omega
    · go_wp2_with fail
      go_ret
      exact ⟨ret_int (by rw [List.take_of_length_le (by omega)]), rfl⟩
theorem specSSum_none (w : World) (a : Option Addr) (cap : Nat) : Calls Tryz.prog 66 #[.slice a 0 cap] w fun e w' => e = .returned (.int .i64 7) ∧ w' = w := by
  go_enter Tryz.func66, Tryz.ntmps66
  go_wp2
  refine wp_loop_rounds 1 ?_
  rw [rounds_succ]
  go_wp2
  go_ret
  exact ⟨rfl, rfl⟩
theorem specSSum_any (w : World) (v : Value) (bs : List UInt8) (hl : bs.length ≤ maxLen) (h : ByRd w v bs) : Calls Tryz.prog 66 #[v] w fun e w' => e = .returned (.int .i64 (saySum bs)) ∧ w' = w := by
  obtain ⟨a, cap, rfl, h, _⟩ := h
  rcases h with rfl | ⟨b, off, rfl, hb, hc⟩
  · exact specSSum_none w a cap
  · exact specSSum_row w b off cap bs hl hc

set_option maxHeartbeats 1600000 in
theorem overSSum_row (w : World) (b off cap : Nat) (bs : List UInt8) (hl : bs.length ≤ maxLen) (hc : ByAt w b off bs) :
    Calls Tryz.prog 67 #[.slice (some ⟨b, off, none⟩) bs.length cap, .int .i64 7, .int .i64 263] w fun e w' => e = .returned (.int .i64 (saySum bs)) ∧ w' = w := by
  unfold maxLen at hl
  have HC := hide hc
  clear hc
  go_enter Tryz.func67, Tryz.ntmps67
  go_wp2_with fail
  go_loop [7, 13] (fun s i => ∃ k : Nat, k ≤ bs.length ∧ i = .int .i64 k ∧ s = .int .i64 (saySum (bs.take k))) (fun _ i => bs.length - (intOf i).toNat)
  case atStart => exact ⟨0, Nat.zero_le _, rfl, rfl⟩
  case round =>
    obtain ⟨k, hk, rfl, rfl⟩ := hrel
    by_cases hlt : k < bs.length
    · have c0 := unhide HC k hlt
      obtain ⟨r0, r1⟩ := saySum_range (bs.take k)
      have HN := hide (saySum_take bs k hlt)
      have hx0 := UInt8.toNat_lt bs[k]
      generalize saySum (bs.take k) = s at *
      generalize bs[k].toNat = x at *
      go_wp2_with fail
      go_round
      case rel => exact ⟨k + 1, by omega, by go_num, by rw [unhide HN]⟩
      case measure => simp [intOf]; omega
    · go_wp2_with fail
      go_ret
      exact ⟨ret_int (by rw [List.take_of_length_le (by omega)]), rfl⟩
theorem overSSum_none (w : World) (a : Option Addr) (cap : Nat) : Calls Tryz.prog 67 #[.slice a 0 cap, .int .i64 7, .int .i64 263] w fun e w' => e = .returned (.int .i64 7) ∧ w' = w := by
  go_enter Tryz.func67, Tryz.ntmps67
  go_wp2
  refine wp_loop_rounds 1 ?_
  rw [rounds_succ]
  go_wp2
  go_ret
  exact ⟨rfl, rfl⟩
theorem overSSum_any (w : World) (v : Value) (bs : List UInt8) (hl : bs.length ≤ maxLen) (h : ByRd w v bs) : Calls Tryz.prog 67 #[v, .int .i64 7, .int .i64 263] w fun e w' => e = .returned (.int .i64 (saySum bs)) ∧ w' = w := by
  obtain ⟨a, cap, rfl, h, _⟩ := h
  rcases h with rfl | ⟨b, off, rfl, hb, hc⟩
  · exact overSSum_none w a cap
  · exact overSSum_row w b off cap bs hl hc

theorem implSSum_any (w : World) (v : Value) (bs : List UInt8) (hl : bs.length ≤ maxLen) (h : ByRd w v bs) : Calls Tryz.prog 46 #[v] w fun e w' => e = .returned (.int .i64 (saySum bs)) ∧ w' = w := by
  have HO := hide (fun W (h : ByRd W v bs) => overSSum_any W v bs hl h)
  have HH := hide h
  clear h hl
  go_enter Tryz.func46, Tryz.ntmps46
  go_wp2_with fail
  refine (unhide HO _ (unhide HH)).mono ?_
  rintro e w1 ⟨rfl, hw⟩
  rw [hw]
  go_wp2_with fail
  go_ret
  exact ⟨rfl, rfl⟩
end Go.Proofs.YtiebfcefmdiajaaGreatDoor

set_option linter.unusedVariables false
namespace Go.Proofs.YtiebfcefmdiajaaGreatDoor
open Go.RowKit Go.Maps Go.Deep

/-- append(nil, make([]T, n)...) -/
theorem run_append_made {P : Program} (w : World) (t u ty e : TypeId) (i : TypeInfo) (z : Value) (ht : P.underlying t = some (.slice e)) (hu : P.underlying u = some (.int .i64)) (hi : P.info? e = some i) (hz : i.zero = some z) (hs : i.size = 1)
    (n : Nat) (h0 : 0 < n) (h63 : n ≤ 1000000) (h48 : i.bytes ≤ 1000) :
    (Builtin.append_ #[t, u] ty #[.slice none 0 0, .int .i64 (n : Int)]).run P w =
      .ok (.slice (some ⟨w.heap.size, 0, none⟩) n (grownCap w n 0 e)) (w.drew.alloc (.cells (Builtin.zeroCells z.cells n ++ Builtin.zeroCells z.cells (grownCap w n 0 e - n)) e)) := by
  have hn : n ≠ 0 := by omega
  have hw : IntKind.i64.wrap (n : Int) = n := wrap_small _ (by omega) (by omega)
  have hm : n * i.bytes ≤ 1000000 * 1000 := Nat.mul_le_mul h63 h48
  have hm' : ¬ (281474976710656 < (n : Int) * (i.bytes : Int)) := by have : ((n * i.bytes : Nat) : Int) ≤ 1000000000 := by omega
                                                                     rw [Int.natCast_mul] at this; omega
  have h63' : ¬ (9223372036854775807 < (n : Int)) := by omega
  have h48' : ¬ (281474976710656 < Builtin.nextslicecap n 0 * i.bytes) := by rw [nextslicecap_zero h0]; omega
  have hneg : ¬ (n : Int) < 0 := by omega

  have hmx : max (n : Int) 0 = n := by omega
  have has : (asIntOf (.int .i64 (n : Int))).run P w = .ok (.i64, (n : Int)) w := rfl
  simp [Builtin.append_, run_underlying ht, run_underlying hu, sizeOf, typeInfo, zeroValue, hi, hz, hs, asInt, has, hw, hneg, hmx, hm', hn, h63', h48', Question.forced, run_firstCells_none, newRow, grownCap]

theorem wpList_append_made {P : Program} {w w1 : World} {ops : Array Oper} {rest : List Oper} {o : Oper} {a : Act} {Q : Exit → Act → World → Prop} (hgd : o.guard = none) (s x : Operand) (t u : TypeId)
    (ho : o.op = .call { callee := .builtin .append, args := #[s, x], argTypes := #[t, u] }) (v y r : Value) (hs : a.eval s = v) (hx : a.eval x = y) (hr : (Builtin.append_ #[t, u] o.type #[v, y]).run P w = .ok r w1)
    (h : wpList P ops Q rest (a.put o.dst r) w1) : wpList P ops Q (o :: rest) a w := by
  refine wpList_plain hgd fun K hK => ?_
  unfold Oper.wp execOp
  simp only [ho, resolve, invoke, builtin, Sem.run_bind, Sem.run_pure, Result.andThen_ok, List.map_toArray, List.map_cons, List.map_nil, hs, hx, hr]
  exact hK _ _ h
end Go.Proofs.YtiebfcefmdiajaaGreatDoor

set_option linter.unusedVariables false
namespace Go.Proofs.YtiebfcefmdiajaaGreatDoor
open Go.RowKit Go.Maps Go.Deep

theorem byLit (w : World) (B : Nat) (hB : B ≤ w.heap.size) : ByRow B (w.alloc (.cells #[] 5)) (.slice (some ⟨w.heap.size, 0, none⟩) 0 0) [] :=
  World.ownsRow_lit (size := 1) w #[] 0 hB (by unfold maxLen; omega) rfl
/-- a new row of these bytes is handed back -/
def RetRow1 (bs : List UInt8) (w : World) (e : Ending) (w' : World) : Prop := ∃ a n c, e = .returned (.slice a n c) ∧ Hid (n = bs.length) ∧ ByRow w.heap.size w' (.slice a n c) bs ∧ Below w.heap.size w w'



end Go.Proofs.YtiebfcefmdiajaaGreatDoor
