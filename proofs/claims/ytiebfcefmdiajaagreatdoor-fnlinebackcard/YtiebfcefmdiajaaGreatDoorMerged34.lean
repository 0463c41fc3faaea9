/-
  What the laws on words ask: whether two words are the same.
-/
/-
  Decimals: the specification's own way to write a number is Go's own.
-/
/-
  Texts of numbers, and lists of bytes that are cut at a byte: mathematics alone.
-/
import Derived.Test.YtiebfcefmdiajaaGreatDoorMerged12
import Derived.Test.YtiebfcefmdiajaaGreatDoorMerged7
import Derived.BigQuiet
import Derived.Deep.QuietTactic
import Derived.WalkKit
import Derived.Handy
import Derived.Test.YtiebfcefmdiajaaGreatDoorMerged3
import Derived.ProofKit
import Derived.Lib.ItoaNum
import Derived.Laws.BytesArg
import Derived.Lib.Join
set_option linter.unusedVariables false
namespace Go.Proofs.YtiebfcefmdiajaaGreatDoor
open Go.RowKit Go.Maps Go.Deep

theorem cmpVer (x0 y0 : ByteArray) (x1 y1 : Int) (w : World) : (Op.equalIn 10000 57 (.agg #[.string x0, .int .i64 x1]) (.agg #[.string y0, .int .i64 y1])).run Tryz.prog w = .ok ((x0.toList == y0.toList) && (x1 == y1)) w := by
  rw [run_equalIn_struct w 9999 57 _ _ (by kernel_rfl) (by kernel_rfl)]
  have hf : (Tryz.prog.fieldsOf 57).toList.map (fun f => (f.name, f.type, f.offset)) = [("Src", 9, 0), ("Ver", 3, 1)] := by kernel_rfl
  have hp : ∀ (T : TypeId) (a b : Value) (k : Nat) (v : Value), (isAgg T).run Tryz.prog w = .ok false w → (#[a, b] : Array Value)[k]? = some v → (part T #[a, b] k).run Tryz.prog w = .ok v w := by
    intro T a b k v ha hv
    unfold part
    simp only [Sem.run_bind, ha, Result.andThen_ok, Bool.false_eq_true, if_false, hv, Sem.run_pure]
  have hs : (isAgg 9).run Tryz.prog w = .ok false w := by kernel_rfl
  have hi : (isAgg 3).run Tryz.prog w = .ok false w := by kernel_rfl
  generalize (Tryz.prog.fieldsOf 57).toList = fs at hf ⊢
  match fs, hf with
  | [], hf => simp at hf
  | [_], hf => simp at hf
  | _ :: _ :: _ :: _, hf => simp at hf
  | [f0, f1], hf =>
    simp only [List.map_cons, List.map_nil, List.cons.injEq, Prod.mk.injEq, and_true] at hf
    obtain ⟨⟨n0, t0, o0⟩, ⟨n1, t1, o1⟩⟩ := hf
    simp only [Op.eqFields, n0, n1, t0, t1, o0, o1]
    rw [if_pos (by decide), if_pos (by decide)]
    simp only [Sem.run_bind]
    rw [hp _ _ _ 0 (.string x0) hs rfl, Result.andThen_ok, hp _ _ _ 0 (.string y0) hs rfl, Result.andThen_ok, run_equalIn_string w 9998 9 x0 y0 Tryz.underlying9, Result.andThen_ok]
    cases (x0.toList == y0.toList)
    · simp
    · simp only [Bool.not_true, Bool.false_eq_true, if_false, Sem.run_bind]
      rw [hp _ _ _ 1 (.int .i64 x1) hi rfl, Result.andThen_ok, hp _ _ _ 1 (.int .i64 y1) hi rfl, Result.andThen_ok, run_equalIn_int w 9998 3 .i64 .i64 x1 y1 Tryz.underlying3, Result.andThen_ok]
      cases (x1 == y1) <;> simp

theorem lt_cells33 {w : World} {g o : Nat} {v : Value} (h : w.cell? ⟨g, o, none⟩ = some v) : g < w.heap.size := World.block_lt_of_cell? w ⟨g, o, none⟩ h
set_option maxHeartbeats 6400000 in
set_option maxRecDepth 20000 in
theorem leSay_row (k f t val : Int) (nm : ByteArray) (vs : List VerV) (w : World) (b off c b' off' c' : Nat) (hs : vs.length ≤ 1048576) (hA : VerAt w b off vs) (hB : VerAt w b' off' vs) (hb : b < w.heap.size) (hb' : b' < w.heap.size) :
    Calls Tryz.prog 15 #[.agg #[.int .i64 k, .int .i64 f, .int .i64 t, .string nm, .int .i64 val, .slice (some ⟨b, off, none⟩) vs.length c], .agg #[.int .i64 k, .int .i64 f, .int .i64 t, .string nm, .int .i64 val, .slice (some ⟨b', off', none⟩) vs.length c']] w fun e w' => e = .returned (.bool true) ∧ Below w.heap.size w w' := by
  have bA := (Below.refl w.heap.size w).alloc (Nat.le_refl _) (.cells #[.int .i64 k, .int .i64 f, .int .i64 t, .string nm, .int .i64 val, .slice (some ⟨b, off, none⟩) vs.length c] 24)
  have bB := bA.alloc (by simp) (.cells #[.int .i64 k, .int .i64 f, .int .i64 t, .string nm, .int .i64 val, .slice (some ⟨b', off', none⟩) vs.length c'] 24)
  have X1 := hide (boxF_new w [.int .i64 k, .int .i64 f, .int .i64 t, .string nm, .int .i64 val, .slice (some ⟨b, off, none⟩) vs.length c] 24)
  have X2 := hide (boxF_new (w.alloc (.cells #[.int .i64 k, .int .i64 f, .int .i64 t, .string nm, .int .i64 val, .slice (some ⟨b, off, none⟩) vs.length c] 24)) [.int .i64 k, .int .i64 f, .int .i64 t, .string nm, .int .i64 val, .slice (some ⟨b', off', none⟩) vs.length c'] 24)
  simp only [List.toArray] at X1 X2
  rw [World.size_alloc] at X2
  have HX1 := hide ((unhide X1).up ((Below.refl _ _).alloc (Nat.le_refl _) (.cells #[.int .i64 k, .int .i64 f, .int .i64 t, .string nm, .int .i64 val, .slice (some ⟨b', off', none⟩) vs.length c'] 24)))
  have BB := hide bB
  have HA := hide (hA.below bB hb)
  have HB := hide (hB.below bB hb')
  have HZB := hide (Nat.lt_of_lt_of_le hb bB.size)
  have HZB' := hide (Nat.lt_of_lt_of_le hb' bB.size)
  clear bA bB X1 hA hB hb hb'
  go_enter Tryz.func15, Tryz.ntmps15
  go_wp2_with fail
  generalize (w.alloc (.cells #[.int .i64 k, .int .i64 f, .int .i64 t, .string nm, .int .i64 val, .slice (some ⟨b, off, none⟩) vs.length c] 24)).alloc (.cells #[.int .i64 k, .int .i64 f, .int .i64 t, .string nm, .int .i64 val, .slice (some ⟨b', off', none⟩) vs.length c'] 24) = W at *
  go_loopw [5] (fun i wr => ∃ j : Nat, j ≤ vs.length ∧ i = .int .i64 j ∧ Hid (Below W.heap.size W wr)) (fun i _ => vs.length - (intOf i).toNat)
  case atStart => exact ⟨0, Nat.zero_le _, rfl, Below.refl _ _⟩
  case round =>
    obtain ⟨j, hj, rfl, HBr⟩ := hrel
    have q5 := ((unhide HX1).up (unhide HBr)).1.at 5 _ rfl
    have r5 := ((unhide X2).up (unhide HBr)).1.at 5 _ rfl
    by_cases hlt : j < vs.length
    · obtain ⟨c0, c1⟩ := (unhide HA).below (unhide HBr) (unhide HZB) j hlt
      obtain ⟨d0, d1⟩ := (unhide HB).below (unhide HBr) (unhide HZB') j hlt
      have hcmp := fun (X : World) => cmpVer vs[j].a0 vs[j].a0 vs[j].a1 vs[j].a1 X
      simp only [BEq.rfl, Bool.and_self] at hcmp
      have hgd : Tryz.prog.eqGuardType Tryz.prog.depth 57 = false := by kernel_rfl
      generalize vs[j] = x at *
      go_wp2_with fail
      go_quiet (fail)
      go_wp2_with fail
      go_roundw
      case rel => exact ⟨j + 1, by omega, by go_num, hide ((unhide HBr).trans ((belowN _ _).mono (unhide HBr).size))⟩
      case measure => simp [intOf]; omega
    · go_wp2_with fail
      go_ret
      exact ⟨rfl, (unhide BB).trans ((unhide HBr).mono (unhide BB).size)⟩
set_option maxHeartbeats 3200000 in
set_option maxRecDepth 20000 in
theorem leSay_none (k f t val : Int) (nm : ByteArray) (w : World) (a a' : Option Addr) (c c' : Nat) :
    Calls Tryz.prog 15 #[.agg #[.int .i64 k, .int .i64 f, .int .i64 t, .string nm, .int .i64 val, .slice a 0 c], .agg #[.int .i64 k, .int .i64 f, .int .i64 t, .string nm, .int .i64 val, .slice a' 0 c']] w fun e w' => e = .returned (.bool true) ∧ Below w.heap.size w w' := by
  go_enter Tryz.func15, Tryz.ntmps15
  go_wp2_with fail
  refine wp_loop_rounds 1 ?_
  rw [rounds_succ]
  go_wp2_with fail
  go_ret
  exact ⟨rfl, by go_grown⟩
theorem leSay_same (s : SayV) (v v' : Value) (w : World) (hs : s.stamp.length ≤ 1048576) (h : SayRd w v s) (h' : SayRd w v' s) :
    Calls Tryz.prog 15 #[v, v'] w fun e w' => e = .returned (.bool true) ∧ Below w.heap.size w w' := by
  obtain ⟨v0, rfl, a, c, rfl, h⟩ := h
  obtain ⟨v0', rfl, a', c', rfl, h'⟩ := h'
  obtain ⟨k, f, t, nm, val, vs⟩ := s
  simp only at h h' hs ⊢
  rcases h with rfl | ⟨b, off, rfl, hb, h⟩
  · exact leSay_none k f t val nm w a a' c c'
  · rcases h' with rfl | ⟨b', off', rfl, hb', h'⟩
    · exact leSay_none k f t val nm w _ a' c c'
    · exact leSay_row k f t val nm vs w b off c b' off' c' hs h h' hb hb'
end Go.Proofs.YtiebfcefmdiajaaGreatDoor

namespace Go.Proofs.YtiebfcefmdiajaaGreatDoor
open Go.RowKit Go.Maps

theorem size_app (a b : ByteArray) : (a ++ b).size = a.size + b.size := by simp
theorem size_lit (l : List UInt8) : (⟨l.toArray⟩ : ByteArray).size = l.length := by simp [ByteArray.size]
theorem dec_len (u : Nat) : ∀ m : Nat, u < 10 ^ (m + 1) → (Lib.decDigits u).length ≤ m + 1 := by
  intro m
  induction m generalizing u with
  | zero =>
    intro h
    rw [Lib.decDigits, dif_pos (by simpa using h)]
    simp
  | succ m ih =>
    intro h
    rw [Lib.decDigits]
    split
    · simp
    · have := ih (u / 10) (by rw [Nat.pow_succ] at h; omega)
      simp; omega
def dgt (m : Nat) : UInt8 := UInt8.ofNat (48 + m % 10)
theorem dec_step (m : Nat) (h : ¬ m < 10) (out : ByteArray) : (⟨(Lib.decDigits m).toArray⟩ : ByteArray) ++ out = ⟨(Lib.decDigits (m / 10)).toArray⟩ ++ (⟨#[dgt m]⟩ ++ out) := by
  rw [Lib.decDigits, dif_neg h]
  apply ByteArray.ext
  simp [dgt]
theorem dec_last (m : Nat) (h : m < 10) : (⟨(Lib.decDigits m).toArray⟩ : ByteArray) = ⟨#[dgt m]⟩ := by
  rw [Lib.decDigits, dif_pos h, dgt, Nat.mod_eq_of_lt h]
/-- what is still to be written, ahead of what is written -/
def DecLeft (N m : Nat) (out : ByteArray) : Prop := if m = 0 then out = ⟨(Lib.decDigits N).toArray⟩ else (⟨(Lib.decDigits m).toArray⟩ : ByteArray) ++ out = ⟨(Lib.decDigits N).toArray⟩
theorem DecLeft.step {N m : Nat} {out : ByteArray} (h : DecLeft N m out) (hm : m ≠ 0) : DecLeft N (m / 10) (⟨#[dgt m]⟩ ++ out) := by
  unfold DecLeft at h ⊢
  rw [if_neg hm] at h
  by_cases h10 : m < 10
  · rw [if_pos (by omega), ← h, dec_last m h10]
  · rw [if_neg (by omega), ← dec_step m h10]; exact h
theorem DecLeft.size {N m : Nat} {out : ByteArray} (h : DecLeft N m out) (hN : N ≤ 9223372036854775808) : out.size ≤ 19 := by
  have hl := dec_len N 18 (by omega)
  unfold DecLeft at h
  split at h
  · rw [h, size_lit]; omega
  · have := congrArg ByteArray.size h
    have e1 := size_lit (Lib.decDigits N)
    rw [size_app] at this
    omega
def itoaB (n : Int) : ByteArray := ⟨(Lib.itoa n).toArray⟩
theorem itoaB_size (n : Int) (h0 : -9223372036854775808 ≤ n) (h1 : n ≤ 9223372036854775807) : (itoaB n).size ≤ 20 := by
  unfold itoaB Lib.itoa
  rw [size_lit]
  split
  · have := dec_len n.natAbs 18 (by omega)
    simp only [List.length_cons]; omega
  · have := dec_len n.toNat 18 (by omega)
    omega

end Go.Proofs.YtiebfcefmdiajaaGreatDoor

set_option linter.unusedVariables false
namespace Go.Proofs.YtiebfcefmdiajaaGreatDoor
open Go.RowKit Go.Maps

theorem snoc_ind {α : Type} {P : List α → Prop} (h0 : P []) (h1 : ∀ l b, P l → P (l ++ [b])) (l : List α) : P l := by
  have h : ∀ n (l : List α), l.length = n → P l := by
    intro n
    induction n with
    | zero => intro l hl; rw [List.eq_nil_of_length_eq_zero hl]; exact h0
    | succ n ih =>
      intro l hl
      have hne : l ≠ [] := by intro e; rw [e] at hl; cases hl
      rw [← List.dropLast_concat_getLast hne]
      exact h1 _ _ (ih _ (by rw [List.length_dropLast]; omega))
  exact h l.length l rfl
/-- one byte more, of what is cut at each c: the parts that are whole, the part that is open -/
def cutStep (c : UInt8) (s : List (List UInt8) × List UInt8) (b : UInt8) : List (List UInt8) × List UInt8 := if b = c then (s.1 ++ [s.2], []) else (s.1, s.2 ++ [b])
def cutSt (c : UInt8) (bs : List UInt8) : List (List UInt8) × List UInt8 := bs.foldl (cutStep c) ([], [])
def cutB (c : UInt8) (bs : List UInt8) : List (List UInt8) := (cutSt c bs).1 ++ [(cutSt c bs).2]
theorem cutSt_snoc (c : UInt8) (bs : List UInt8) (b : UInt8) : cutSt c (bs ++ [b]) = cutStep c (cutSt c bs) b := by simp [cutSt]
theorem join_snocL (ps : List (List UInt8)) (p sep : List UInt8) (h : ps ≠ []) : Lib.join (ps ++ [p]) sep = Lib.join ps sep ++ sep ++ p := by
  cases ps with
  | nil => exact absurd rfl h
  | cons x r => rw [List.cons_append, Lib.join_cons, Lib.join_cons]; simp [Lib.joinTail]
theorem join_more (ps : List (List UInt8)) (p q sep : List UInt8) : Lib.join (ps ++ [p ++ q]) sep = Lib.join (ps ++ [p]) sep ++ q := by
  by_cases h : ps = []
  · subst h; simp [Lib.join_one]
  · rw [join_snocL _ _ _ h, join_snocL _ _ _ h]; simp
theorem cut_joinSt (c : UInt8) (bs : List UInt8) : Lib.join ((cutSt c bs).1 ++ [(cutSt c bs).2]) [c] = bs := by
  induction bs using snoc_ind with
  | h0 => simp [cutSt, Lib.join_one]
  | h1 bs b ih =>
    rw [cutSt_snoc]
    unfold cutStep
    split
    · rename_i e
      rw [join_snocL _ _ _ (by simp), ih, e]; simp
    · rw [join_more, ih]
theorem cut_join (c : UInt8) (bs : List UInt8) : Lib.join (cutB c bs) [c] = bs := cut_joinSt c bs
theorem cut_free (c : UInt8) (bs : List UInt8) : ∀ p ∈ cutB c bs, c ∉ p := by
  unfold cutB
  induction bs using snoc_ind with
  | h0 => simp [cutSt]
  | h1 bs b ih =>
    rw [cutSt_snoc]
    unfold cutStep
    intro p hp
    split at hp
    · simp only [List.mem_append, List.mem_cons, List.not_mem_nil, or_false] at hp
      rcases hp with (hp | hp) | hp
      · exact ih p (by simp [hp])
      · exact ih p (by simp [hp])
      · rw [hp]; simp
    · rename_i e
      simp only [List.mem_append, List.mem_cons, List.not_mem_nil, or_false] at hp
      rcases hp with hp | hp
      · exact ih p (by simp [hp])
      · rw [hp]
        intro hm
        rcases List.mem_append.1 hm with q | q
        · exact ih _ (by simp) q
        · simp at q; exact e q.symm
theorem fold_free (c : UInt8) (p : List UInt8) (h : c ∉ p) (s : List (List UInt8) × List UInt8) : p.foldl (cutStep c) s = (s.1, s.2 ++ p) := by
  induction p generalizing s with
  | nil => simp
  | cons b r ih =>
    simp at h
    rw [List.foldl_cons, cutStep, if_neg (fun e => h.1 e.symm), ih h.2]
    simp
theorem fold_tail (c : UInt8) (r : List (List UInt8)) (h : ∀ p ∈ r, c ∉ p) (s : List (List UInt8) × List UInt8) : ((Lib.joinTail [c] r).foldl (cutStep c) s).1 ++ [((Lib.joinTail [c] r).foldl (cutStep c) s).2] = s.1 ++ [s.2] ++ r := by
  induction r generalizing s with
  | nil => simp [Lib.joinTail]
  | cons p r ih =>
    have e : Lib.joinTail [c] (p :: r) = c :: (p ++ Lib.joinTail [c] r) := by simp [Lib.joinTail]
    rw [e, List.foldl_cons, cutStep, if_pos rfl, List.foldl_append, fold_free c p (h p (by simp)), ih (fun q hq => h q (by simp [hq]))]
    simp
theorem cut_back (c : UInt8) (ps : List (List UInt8)) (h0 : ps ≠ []) (h : ∀ p ∈ ps, c ∉ p) : cutB c (Lib.join ps [c]) = ps := by
  cases ps with
  | nil => exact absurd rfl h0
  | cons p r =>
    unfold cutB cutSt
    rw [Lib.join_cons, List.foldl_append, fold_free c p (h p (by simp)), fold_tail c r (fun q hq => h q (by simp [hq]))]
    simp

def digN (b : UInt8) : Bool := decide (48 ≤ b.toNat) && decide (b.toNat ≤ 57)
def decV (l : List UInt8) : Nat := l.foldl (fun a b => 10 * a + (b.toNat - 48)) 0
theorem decV_snoc (l : List UInt8) (b : UInt8) : decV (l ++ [b]) = 10 * decV l + (b.toNat - 48) := by simp [decV]
theorem decV_lt (l : List UInt8) (h : l.all digN = true) : decV l < 10 ^ l.length := by
  induction l using snoc_ind with
  | h0 => simp [decV]
  | h1 l b ih =>
    simp only [List.all_append, List.all_cons, List.all_nil, Bool.and_true, Bool.and_eq_true] at h
    have h1 := ih h.1
    have h2 := h.2
    unfold digN at h2
    simp at h2
    rw [decV_snoc, List.length_append, List.length_cons, List.length_nil, Nat.pow_succ]
    omega
theorem decV_take (l : List UInt8) (k : Nat) (h : k < l.length) : decV (l.take (k + 1)) = 10 * decV (l.take k) + (l[k].toNat - 48) := by
  rw [List.take_succ_eq_append_getElem h, decV_snoc]
theorem decV_mono (l : List UInt8) (k : Nat) : decV (l.take k) ≤ decV l := by
  induction l using snoc_ind with
  | h0 => simp
  | h1 l b ih =>
    by_cases h : k ≤ l.length
    · rw [List.take_append_of_le_length h, decV_snoc]; omega
    · rw [List.take_of_length_le (by rw [List.length_append]; simp only [List.length_cons, List.length_nil]; omega)]; exact Nat.le_refl _
theorem dig_toNat {u : Nat} (h : u < 10) : (UInt8.ofNat (48 + u)).toNat = 48 + u := by
  rw [UInt8.toNat_ofNat']
  exact Nat.mod_eq_of_lt (by omega)
theorem dec_dig (u : Nat) : (Lib.decDigits u).all digN = true := by
  induction u using Nat.strongRecOn with
  | _ u ih =>
    rw [Lib.decDigits]
    split
    · rename_i h
      have := dig_toNat h
      simp only [List.all_cons, List.all_nil, Bool.and_true, digN, this, Bool.and_eq_true, decide_eq_true_eq]; omega
    · rename_i h
      have := dig_toNat (show u % 10 < 10 by omega)
      rw [List.all_append, ih (u / 10) (by omega)]
      simp only [List.all_cons, List.all_nil, Bool.and_true, Bool.true_and, digN, this, Bool.and_eq_true, decide_eq_true_eq]; omega
theorem dec_val (u : Nat) : decV (Lib.decDigits u) = u := by
  induction u using Nat.strongRecOn with
  | _ u ih =>
    rw [Lib.decDigits]
    split
    · rename_i h
      have := dig_toNat h
      simp only [decV, List.foldl_cons, List.foldl_nil, this]; omega
    · rename_i h
      have := dig_toNat (show u % 10 < 10 by omega)
      rw [decV_snoc, ih (u / 10) (by omega), this]; omega
theorem dec_ne (u : Nat) : Lib.decDigits u ≠ [] := by
  rw [Lib.decDigits]
  split <;> simp
theorem dec_head (u : Nat) (h : 1 ≤ u) : ∀ b r, Lib.decDigits u = b :: r → b ≠ 48 := by
  induction u using Nat.strongRecOn with
  | _ u ih =>
    intro b r e
    rw [Lib.decDigits] at e
    split at e
    · rename_i h10
      simp only [List.cons.injEq] at e
      intro e2
      have := congrArg UInt8.toNat (e.1.trans e2)
      rw [dig_toNat h10] at this
      have e48 : (48 : UInt8).toNat = 48 := rfl
      omega
    · rename_i h10
      obtain ⟨b', r', e'⟩ := List.exists_cons_of_ne_nil (dec_ne (u / 10))
      rw [e'] at e
      simp only [List.cons_append, List.cons.injEq] at e
      rw [← e.1]
      exact ih (u / 10) (by omega) (by omega) b' r' e'
theorem decV_pos (l : List UInt8) (hd : l.all digN = true) (h0 : l ≠ []) (hh : l.head h0 ≠ 48) : 1 ≤ decV l := by
  induction l using snoc_ind with
  | h0 => exact absurd rfl h0
  | h1 l b ih =>
    rw [decV_snoc]
    simp only [List.all_append, List.all_cons, List.all_nil, Bool.and_true, Bool.and_eq_true] at hd
    by_cases hl : l = []
    · subst hl
      simp at hh
      have h2 := hd.2
      unfold digN at h2
      simp at h2
      have : b.toNat ≠ 48 := fun e => hh (UInt8.toNat_inj.1 (by simpa using e))
      simp [decV]; omega
    · have := ih hd.1 hl (by rw [List.head_append_of_ne_nil hl] at hh; exact hh)
      omega
/-- digits without a needless 0 ahead are written by the number that they spell -/
theorem dec_canon (l : List UInt8) (hd : l.all digN = true) (h0 : l ≠ []) (hh : l.head h0 ≠ 48 ∨ l.length = 1) : Lib.decDigits (decV l) = l := by
  induction l using snoc_ind with
  | h0 => exact absurd rfl h0
  | h1 l b ih =>
    have hd' := hd
    simp only [List.all_append, List.all_cons, List.all_nil, Bool.and_true, Bool.and_eq_true] at hd
    have h2 := hd.2
    unfold digN at h2
    simp at h2
    have hb : UInt8.ofNat (48 + (b.toNat - 48)) = b := by
      rw [show 48 + (b.toNat - 48) = b.toNat by omega]
      simp
    rw [decV_snoc]
    by_cases hl : l = []
    · subst hl
      have : decV [] = 0 := rfl
      rw [this, Nat.mul_zero, Nat.zero_add, Lib.decDigits, dif_pos (by omega), hb]
      rfl
    · have hh' : l.head hl ≠ 48 := by
        rcases hh with hh | hh
        · rw [List.head_append_of_ne_nil hl] at hh; exact hh
        · have : l.length ≠ 0 := fun e => hl (List.eq_nil_of_length_eq_zero e)
          rw [List.length_append] at hh; simp only [List.length_cons, List.length_nil] at hh; omega
      have h1 := decV_pos l hd.1 hl hh'
      rw [Lib.decDigits, dif_neg (by omega)]
      have e1 : (10 * decV l + (b.toNat - 48)) / 10 = decV l := by omega
      have e2 : (10 * decV l + (b.toNat - 48)) % 10 = b.toNat - 48 := by omega
      rw [e1, e2, ih hd.1 hl (.inl hh'), hb]
end Go.Proofs.YtiebfcefmdiajaaGreatDoor
