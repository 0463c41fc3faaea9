/-
  What the laws on words ask: whether two words are the same.
-/
/-
  Decimals: the specification's own way to write a number is Go's own.
-/
import Derived.Test.YtiebfcefmdiajaaGreatDoorMerged12
import Derived.Test.YtiebfcefmdiajaaGreatDoorMerged7
import Derived.BigQuiet
import Derived.Deep.QuietTactic
import Derived.WalkKit
import Derived.Handy
import Derived.Test.YtiebfcefmdiajaaGreatDoorMerged3
import Derived.ProofKit
import Derived.Lib.ItoaNum
import Derived.Laws.BytesArg
set_option linter.unusedVariables false
namespace Go.Proofs.YtiebfcefmdiajaaGreatDoor
open Go.RowKit Go.Maps Go.Deep

theorem cmpVer (x0 y0 : ByteArray) (x1 y1 : Int) (w : World) : (Op.equalIn 10000 57 (.agg #[.string x0, .int .i64 x1]) (.agg #[.string y0, .int .i64 y1])).run Tryz.prog w = .ok ((x0.toList == y0.toList) && (x1 == y1)) w := by
  rw [run_equalIn_struct w 9999 57 _ _ (by kernel_rfl) (by kernel_rfl)]
  have hf : (Tryz.prog.fieldsOf 57).toList.map (fun f => (f.name, f.type, f.offset)) = [("Src", 9, 0), ("Ver", 3, 1)] := by kernel_rfl
  have hp : ∀ (T : TypeId) (a b : Value) (k : Nat) (v : Value), (isAgg T).run Tryz.prog w = .ok false w → (#[a, b] : Array Value)[k]? = some v → (part T #[a, b] k).run Tryz.prog w = .ok v w := by
    intro T a b k v ha hv
    unfold part
    simp only [Sem.run_bind, ha, Result.andThen_ok, Bool.false_eq_true, if_false, hv, Sem.run_pure]
  have hs : (isAgg 9).run Tryz.prog w = .ok false w := by kernel_rfl
  have hi : (isAgg 3).run Tryz.prog w = .ok false w := by kernel_rfl
  generalize (Tryz.prog.fieldsOf 57).toList = fs at hf ⊢
  match fs, hf with
  | [], hf => simp at hf
  | [_], hf => simp at hf
  | _ :: _ :: _ :: _, hf => simp at hf
  | [f0, f1], hf =>
    simp only [List.map_cons, List.map_nil, List.cons.injEq, Prod.mk.injEq, and_true] at hf
    obtain ⟨⟨n0, t0, o0⟩, ⟨n1, t1, o1⟩⟩ := hf
    simp only [Op.eqFields, n0, n1, t0, t1, o0, o1]
    rw [if_pos (by decide), if_pos (by decide)]
    simp only [Sem.run_bind]
    rw [hp _ _ _ 0 (.string x0) hs rfl, Result.andThen_ok, hp _ _ _ 0 (.string y0) hs rfl, Result.andThen_ok, run_equalIn_string w 9998 9 x0 y0 Tryz.underlying9, Result.andThen_ok]
    cases (x0.toList == y0.toList)
    · simp
    · simp only [Bool.not_true, Bool.false_eq_true, if_false, Sem.run_bind]
      rw [hp _ _ _ 1 (.int .i64 x1) hi rfl, Result.andThen_ok, hp _ _ _ 1 (.int .i64 y1) hi rfl, Result.andThen_ok, run_equalIn_int w 9998 3 .i64 .i64 x1 y1 Tryz.underlying3, Result.andThen_ok]
      cases (x1 == y1) <;> simp

theorem lt_cells33 {w : World} {g o : Nat} {v : Value} (h : w.cell? ⟨g, o, none⟩ = some v) : g < w.heap.size := World.block_lt_of_cell? w ⟨g, o, none⟩ h
set_option maxHeartbeats 6400000 in
set_option maxRecDepth 20000 in
theorem leSay_row (k f t val : Int) (nm : ByteArray) (vs : List VerV) (w : World) (b off c b' off' c' : Nat) (hs : vs.length ≤ 1048576) (hA : VerAt w b off vs) (hB : VerAt w b' off' vs) (hb : b < w.heap.size) (hb' : b' < w.heap.size) :
    Calls Tryz.prog 15 #[.agg #[.int .i64 k, .int .i64 f, .int .i64 t, .string nm, .int .i64 val, .slice (some ⟨b, off, none⟩) vs.length c], .agg #[.int .i64 k, .int .i64 f, .int .i64 t, .string nm, .int .i64 val, .slice (some ⟨b', off', none⟩) vs.length c']] w fun e w' => e = .returned (.bool true) ∧ Below w.heap.size w w' := by
  have bA := (Below.refl w.heap.size w).alloc (Nat.le_refl _) (.cells #[.int .i64 k, .int .i64 f, .int .i64 t, .string nm, .int .i64 val, .slice (some ⟨b, off, none⟩) vs.length c] 24)
  have bB := bA.alloc (by simp) (.cells #[.int .i64 k, .int .i64 f, .int .i64 t, .string nm, .int .i64 val, .slice (some ⟨b', off', none⟩) vs.length c'] 24)
  have X1 := hide (boxF_new w [.int .i64 k, .int .i64 f, .int .i64 t, .string nm, .int .i64 val, .slice (some ⟨b, off, none⟩) vs.length c] 24)
  have X2 := hide (boxF_new (w.alloc (.cells #[.int .i64 k, .int .i64 f, .int .i64 t, .string nm, .int .i64 val, .slice (some ⟨b, off, none⟩) vs.length c] 24)) [.int .i64 k, .int .i64 f, .int .i64 t, .string nm, .int .i64 val, .slice (some ⟨b', off', none⟩) vs.length c'] 24)
  simp only [List.toArray] at X1 X2
  rw [World.size_alloc] at X2
  have HX1 := hide ((unhide X1).up ((Below.refl _ _).alloc (Nat.le_refl _) (.cells #[.int .i64 k, .int .i64 f, .int .i64 t, .string nm, .int .i64 val, .slice (some ⟨b', off', none⟩) vs.length c'] 24)))
  have BB := hide bB
  have HA := hide (hA.below bB hb)
  have HB := hide (hB.below bB hb')
  have HZB := hide (Nat.lt_of_lt_of_le hb bB.size)
  have HZB' := hide (Nat.lt_of_lt_of_le hb' bB.size)
  clear bA bB X1 hA hB hb hb'
  go_enter Tryz.func15, Tryz.ntmps15
  go_wp2_with fail
  generalize (w.alloc (.cells #[.int .i64 k, .int .i64 f, .int .i64 t, .string nm, .int .i64 val, .slice (some ⟨b, off, none⟩) vs.length c] 24)).alloc (.cells #[.int .i64 k, .int .i64 f, .int .i64 t, .string nm, .int .i64 val, .slice (some ⟨b', off', none⟩) vs.length c'] 24) = W at *
  go_loopw [5] (fun i wr => ∃ j : Nat, j ≤ vs.length ∧ i = .int .i64 j ∧ Hid (Below W.heap.size W wr)) (fun i _ => vs.length - (intOf i).toNat)
  case atStart => exact ⟨0, Nat.zero_le _, rfl, Below.refl _ _⟩
  case round =>
    obtain ⟨j, hj, rfl, HBr⟩ := hrel
    have q5 := ((unhide HX1).up (unhide HBr)).1.at 5 _ rfl
    have r5 := ((unhide X2).up (unhide HBr)).1.at 5 _ rfl
    by_cases hlt : j < vs.length
    · obtain ⟨c0, c1⟩ := (unhide HA).below (unhide HBr) (unhide HZB) j hlt
      obtain ⟨d0, d1⟩ := (unhide HB).below (unhide HBr) (unhide HZB') j hlt
      have hcmp := fun (X : World) => cmpVer vs[j].a0 vs[j].a0 vs[j].a1 vs[j].a1 X
      simp only [BEq.rfl, Bool.and_self] at hcmp
      have hgd : Tryz.prog.eqGuardType Tryz.prog.depth 57 = false := by kernel_rfl
      generalize vs[j] = x at *
      go_wp2_with fail
      go_quiet (fail)
      go_wp2_with fail
      go_roundw
      case rel => exact ⟨j + 1, by omega, by go_num, hide ((unhide HBr).trans ((belowN _ _).mono (unhide HBr).size))⟩
      case measure => simp [intOf]; omega
    · go_wp2_with fail
      go_ret
      exact ⟨rfl, (unhide BB).trans ((unhide HBr).mono (unhide BB).size)⟩
set_option maxHeartbeats 3200000 in
set_option maxRecDepth 20000 in
theorem leSay_none (k f t val : Int) (nm : ByteArray) (w : World) (a a' : Option Addr) (c c' : Nat) :
    Calls Tryz.prog 15 #[.agg #[.int .i64 k, .int .i64 f, .int .i64 t, .string nm, .int .i64 val, .slice a 0 c], .agg #[.int .i64 k, .int .i64 f, .int .i64 t, .string nm, .int .i64 val, .slice a' 0 c']] w fun e w' => e = .returned (.bool true) ∧ Below w.heap.size w w' := by
  go_enter Tryz.func15, Tryz.ntmps15
  go_wp2_with fail
  refine wp_loop_rounds 1 ?_
  rw [rounds_succ]
  go_wp2_with fail
  go_ret
  exact ⟨rfl, by go_grown⟩
theorem leSay_same (s : SayV) (v v' : Value) (w : World) (hs : s.stamp.length ≤ 1048576) (h : SayRd w v s) (h' : SayRd w v' s) :
    Calls Tryz.prog 15 #[v, v'] w fun e w' => e = .returned (.bool true) ∧ Below w.heap.size w w' := by
  obtain ⟨v0, rfl, a, c, rfl, h⟩ := h
  obtain ⟨v0', rfl, a', c', rfl, h'⟩ := h'
  obtain ⟨k, f, t, nm, val, vs⟩ := s
  simp only at h h' hs ⊢
  rcases h with rfl | ⟨b, off, rfl, hb, h⟩
  · exact leSay_none k f t val nm w a a' c c'
  · rcases h' with rfl | ⟨b', off', rfl, hb', h'⟩
    · exact leSay_none k f t val nm w _ a' c c'
    · exact leSay_row k f t val nm vs w b off c b' off' c' hs h h' hb hb'
end Go.Proofs.YtiebfcefmdiajaaGreatDoor

namespace Go.Proofs.YtiebfcefmdiajaaGreatDoor
open Go.RowKit Go.Maps

theorem size_app (a b : ByteArray) : (a ++ b).size = a.size + b.size := by simp
theorem size_lit (l : List UInt8) : (⟨l.toArray⟩ : ByteArray).size = l.length := by simp [ByteArray.size]
theorem dec_len (u : Nat) : ∀ m : Nat, u < 10 ^ (m + 1) → (Lib.decDigits u).length ≤ m + 1 := by
  intro m
  induction m generalizing u with
  | zero =>
    intro h
    rw [Lib.decDigits, dif_pos (by simpa using h)]
    simp
  | succ m ih =>
    intro h
    rw [Lib.decDigits]
    split
    · simp
    · have := ih (u / 10) (by rw [Nat.pow_succ] at h; omega)
      simp; omega
def dgt (m : Nat) : UInt8 := UInt8.ofNat (48 + m % 10)
theorem dec_step (m : Nat) (h : ¬ m < 10) (out : ByteArray) : (⟨(Lib.decDigits m).toArray⟩ : ByteArray) ++ out = ⟨(Lib.decDigits (m / 10)).toArray⟩ ++ (⟨#[dgt m]⟩ ++ out) := by
  rw [Lib.decDigits, dif_neg h]
  apply ByteArray.ext
  simp [dgt]
theorem dec_last (m : Nat) (h : m < 10) : (⟨(Lib.decDigits m).toArray⟩ : ByteArray) = ⟨#[dgt m]⟩ := by
  rw [Lib.decDigits, dif_pos h, dgt, Nat.mod_eq_of_lt h]
/-- what is still to be written, ahead of what is written -/
def DecLeft (N m : Nat) (out : ByteArray) : Prop := if m = 0 then out = ⟨(Lib.decDigits N).toArray⟩ else (⟨(Lib.decDigits m).toArray⟩ : ByteArray) ++ out = ⟨(Lib.decDigits N).toArray⟩
theorem DecLeft.step {N m : Nat} {out : ByteArray} (h : DecLeft N m out) (hm : m ≠ 0) : DecLeft N (m / 10) (⟨#[dgt m]⟩ ++ out) := by
  unfold DecLeft at h ⊢
  rw [if_neg hm] at h
  by_cases h10 : m < 10
  · rw [if_pos (by omega), ← h, dec_last m h10]
  · rw [if_neg (by omega), ← dec_step m h10]; exact h
theorem DecLeft.size {N m : Nat} {out : ByteArray} (h : DecLeft N m out) (hN : N ≤ 9223372036854775808) : out.size ≤ 19 := by
  have hl := dec_len N 18 (by omega)
  unfold DecLeft at h
  split at h
  · rw [h, size_lit]; omega
  · have := congrArg ByteArray.size h
    have e1 := size_lit (Lib.decDigits N)
    rw [size_app] at this
    omega
def itoaB (n : Int) : ByteArray := ⟨(Lib.itoa n).toArray⟩
theorem itoaB_size (n : Int) (h0 : -9223372036854775808 ≤ n) (h1 : n ≤ 9223372036854775807) : (itoaB n).size ≤ 20 := by
  unfold itoaB Lib.itoa
  rw [size_lit]
  split
  · have := dec_len n.natAbs 18 (by omega)
    simp only [List.length_cons]; omega
  · have := dec_len n.toNat 18 (by omega)
    omega

end Go.Proofs.YtiebfcefmdiajaaGreatDoor
