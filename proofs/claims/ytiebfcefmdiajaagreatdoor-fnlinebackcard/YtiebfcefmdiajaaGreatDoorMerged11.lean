/-
  Numbers and their bytes: what is written is read back, and what is read is written so.
-/
/-
  The laws' helpers over bytes, in the form in which the walks of exact laws take them.
-/
/-
  Numbers that are read as unsigned ones, the highest byte first; the specification's way to read and to write numbers in so many bytes.
-/
/-
  The bytes of a word.
-/
import Derived.Test.YtiebfcefmdiajaaGreatDoorByReader
import Derived.Test.YtiebfcefmdiajaaGreatDoorMerged5
import Derived.Test.YtiebfcefmdiajaaGreatDoorMerged7
set_option linter.unusedVariables false
namespace Go.Proofs.YtiebfcefmdiajaaGreatDoor
open Go.RowKit Go.Maps Go.Deep

def valN (bs : List UInt8) : Int := bs.foldl (fun x c => x * 256 + (c.toNat : Int)) 0
theorem valN_snoc (bs : List UInt8) (c : UInt8) : valN (bs ++ [c]) = valN bs * 256 + (c.toNat : Int) := by simp [valN]
theorem numL_snoc (bs : List UInt8) (c : UInt8) : numL (bs ++ [c]) = numF (numL bs) c := by simp [numL]
theorem snoc_cases {p : List UInt8 → Prop} (h0 : p []) (h1 : ∀ bs c, p bs → p (bs ++ [c])) (bs : List UInt8) : p bs := by
  have : ∀ n (bs : List UInt8), bs.length = n → p bs := by
    intro n
    induction n with
    | zero => intro bs h; rw [List.eq_nil_of_length_eq_zero h]; exact h0
    | succ n ih =>
      intro bs h
      obtain ⟨ys, c, rfl⟩ : ∃ ys c, bs = ys ++ [c] := ⟨bs.dropLast, bs.getLast (by intro e; simp [e] at h), (List.dropLast_concat_getLast _).symm⟩
      exact h1 ys c (ih ys (by simp at h; exact h))
  exact this _ bs rfl
theorem valN_ge (bs : List UInt8) : 0 ≤ valN bs := by
  induction bs using snoc_cases with
  | h0 => simp [valN]
  | h1 bs c ih => rw [valN_snoc]; omega
theorem wrap_step (y c : Int) : wrap64 (wrap64 y * 256 + c) = wrap64 (y * 256 + c) := by unfold wrap64; omega
theorem numL_val (bs : List UInt8) : numL bs = wrap64 (valN bs) := by
  induction bs using snoc_cases with
  | h0 => simp [numL, valN, wrap64]
  | h1 bs c ih => rw [numL_snoc, valN_snoc, or_byte, ih, wrap_step]
theorem beB_div (x : Int) (k : Nat) : beB x (k + 1) = beB (x / 256) k := by
  unfold beB
  have : x / 2 ^ (8 * (k + 1)) = x / 256 / 2 ^ (8 * k) := by
    rw [Int.ediv_ediv_of_nonneg (by omega), show (8 * (k + 1)) = 8 + 8 * k by omega, Int.pow_add]
    rfl
  rw [this]
theorem beL_snoc (x : Int) (n : Nat) : beL x (n + 1) = beL (x / 256) n ++ [beB x 0] := by
  induction n with
  | zero => rfl
  | succ n ih =>
    show beB x (n + 1) :: beL x (n + 1) = beB (x / 256) n :: beL (x / 256) n ++ [beB x 0]
    rw [ih, beB_div]
    rfl
theorem beB_low (v : Int) (c : UInt8) : beB (v * 256 + (c.toNat : Int)) 0 = c := by
  unfold beB
  have hc := UInt8.toNat_lt c
  have : ((v * 256 + (c.toNat : Int)) / 2 ^ (8 * 0) % 256).toNat = c.toNat := by simp; omega
  rw [this]
  simp
theorem beL_val (bs : List UInt8) : beL (valN bs) bs.length = bs := by
  induction bs using snoc_cases with
  | h0 => rfl
  | h1 bs c ih =>
    have hc := UInt8.toNat_lt c
    rw [List.length_append, List.length_singleton, beL_snoc, valN_snoc, beB_low, show (valN bs * 256 + (c.toNat : Int)) / 256 = valN bs by omega, ih]
theorem emod_two (x P : Int) (hp : 0 < P) : x % (256 * P) = x / 256 % P * 256 + x % 256 := by
  have h1 := Int.emod_add_mul_ediv x 256
  have h2 := Int.emod_add_mul_ediv (x / 256) P
  have r0 := Int.emod_nonneg (x / 256) (show P ≠ 0 by omega)
  have r1 := Int.emod_lt_of_pos (x / 256) hp
  have e : x = (x / 256 % P * 256 + x % 256) + (256 * P) * (x / 256 / P) := by
    have h3 : 256 * (x / 256) = 256 * (x / 256 % P) + 256 * P * (x / 256 / P) := by
      conv => lhs; rw [← h2]
      rw [Int.mul_add, Int.mul_assoc]
    omega
  conv => lhs; rw [e]
  rw [Int.add_mul_emod_self_left, Int.emod_eq_of_lt (by omega)]
  omega
theorem val_beL (x : Int) (n : Nat) : valN (beL x n) = x % 256 ^ n := by
  induction n generalizing x with
  | zero => simp [beL, valN]
  | succ n ih =>
    rw [beL_snoc, valN_snoc, ih]
    have hb : ((beB x 0).toNat : Int) = x % 256 := by rw [beB_val]; simp; rfl
    rw [hb, Int.pow_succ, Int.mul_comm (256 ^ n) 256]
    have hp : (0 : Int) < 256 ^ n := Int.pow_pos (by omega)
    exact (emod_two x _ hp).symm
theorem numL_beL (x : Int) (h0 : -9223372036854775808 ≤ x) (h1 : x ≤ 9223372036854775807) : numL (beL x 8) = x := by
  rw [numL_val, val_beL]
  have : (256 : Int) ^ 8 = 18446744073709551616 := by decide
  rw [this]
  unfold wrap64
  omega
theorem numL_be2 (x : Int) (h0 : 0 ≤ x) (h1 : x < 65536) : numL (beL x 2) = x := by
  rw [numL_val, val_beL]
  have : (256 : Int) ^ 2 = 65536 := by decide
  rw [this]
  unfold wrap64
  omega
theorem numL_be1 (x : Int) (h0 : 0 ≤ x) (h1 : x < 256) : numL [beB x 0] = x := by
  have := val_beL x 1
  rw [numL_val, show [beB x 0] = beL x 1 from rfl, this]
  simp
  unfold wrap64
  omega
theorem beB_wrap (y : Int) (k : Nat) (hk : k < 8) : beB (wrap64 y) k = beB y k := by
  unfold beB wrap64
  match k, hk with
  | 0, _ => congr 2; simp; omega
  | 1, _ => congr 2; simp; omega
  | 2, _ => congr 2; simp; omega
  | 3, _ => congr 2; simp; omega
  | 4, _ => congr 2; simp; omega
  | 5, _ => congr 2; simp; omega
  | 6, _ => congr 2; simp; omega
  | 7, _ => congr 2; simp; omega
theorem beL_wrap (y : Int) (n : Nat) (hn : n ≤ 8) : beL (wrap64 y) n = beL y n := by
  induction n with
  | zero => rfl
  | succ n ih =>
    show beB (wrap64 y) n :: beL (wrap64 y) n = beB y n :: beL y n
    rw [beB_wrap y n (by omega), ih (by omega)]
theorem beL_numL (bs : List UInt8) (h : bs.length ≤ 8) : beL (numL bs) bs.length = bs := by
  rw [numL_val, beL_wrap _ _ h, beL_val]
theorem numL_range (bs : List UInt8) : -9223372036854775808 ≤ numL bs ∧ numL bs ≤ 9223372036854775807 := by
  rw [numL_val]
  unfold wrap64
  omega
theorem numL_byte (c : UInt8) : numL [c] = (c.toNat : Int) := by
  have := UInt8.toNat_lt c
  rw [numL_val]
  simp [valN]
  unfold wrap64
  omega
theorem beB_byte (c : UInt8) : beB (c.toNat : Int) 0 = c := by simpa using beB_low 0 c
theorem takeL_app (xs ys : List UInt8) : takeL xs.length (xs ++ ys) = xs := by simp [takeL]
theorem leftL_app (xs ys : List UInt8) : leftL xs.length (xs ++ ys) = ys := by simp [leftL]
theorem shortB_app (xs ys : List UInt8) (s : Bool) : shortB xs.length (xs ++ ys) s = s := by simp [shortB]
/-- where nothing lacked -/
theorem took {n : Nat} {rest : List UInt8} {s : Bool} (h : shortB n rest s = false) : s = false ∧ (takeL n rest).length = n ∧ takeL n rest ++ leftL n rest = rest := by
  unfold shortB at h
  split at h
  · rename_i hn
    refine ⟨h, ?_, ?_⟩
    · rw [takeL, if_pos hn]; simp; omega
    · rw [takeL, if_pos hn, leftL, if_pos hn]; simp
  · cases h
end Go.Proofs.YtiebfcefmdiajaaGreatDoor

set_option linter.unusedVariables false
namespace Go.Proofs.YtiebfcefmdiajaaGreatDoor
open Go.RowKit Go.Maps Go.Deep

def SmallByteS (bs : List UInt8) : Prop := bs.length ≤ 1048576
def nByteS (bs : List UInt8) : Nat := bs.length
theorem nByteS_le {bs : List UInt8} (h : SmallByteS bs) : nByteS bs ≤ 100000000 := by unfold SmallByteS at h; unfold nByteS; omega
theorem ByRd.form {w : World} {v : Value} {bs : List UInt8} (h : ByRd w v bs) : ∃ a n c, v = .slice a n c := by
  obtain ⟨a, c, e⟩ := h.len
  exact ⟨a, _, c, e⟩
def ByFit (bs : List UInt8) : Prop := bs.length ≤ maxLen
theorem small_of_len {w : World} {a : Option Addr} {n c : Nat} {bs : List UInt8} (h : ByRd w (.slice a n c) bs) (hl : (n : Int) ≤ 1048576) : SmallByteS bs := by
  obtain ⟨a', c', e, _⟩ := h
  simp only [Value.slice.injEq] at e
  unfold SmallByteS
  omega
end Go.Proofs.YtiebfcefmdiajaaGreatDoor

set_option linter.unusedVariables false
namespace Go.Proofs.YtiebfcefmdiajaaGreatDoor
open Go.RowKit Go.Maps Go.Deep

def numU (x : Int) (c : UInt8) : Int := bits .or .u64 (IntKind.u64.wrap (x * 256)) (c.toNat : Int)
theorem u64_wrap (y : Int) : IntKind.u64.wrap y = y % 18446744073709551616 := rfl
theorem or_byteU (x : Int) (c : UInt8) : numU x c = (x * 256 + (c.toNat : Int)) % 18446744073709551616 := by
  have hc := UInt8.toNat_lt c
  unfold numU
  rw [u64_wrap]
  generalize c.toNat = c at *
  obtain ⟨a, ha⟩ : ∃ a, a = x * 256 % 18446744073709551616 := ⟨_, rfl⟩
  rw [← ha]
  have hA : (BitVec.ofInt 64 a).toNat = a.toNat := by rw [BitVec.toNat_ofInt]; show (a % 18446744073709551616).toNat = _; congr 1; omega
  have hB : (BitVec.ofInt 64 (c : Int)).toNat = c := by
    rw [BitVec.ofInt_natCast, BitVec.toNat_ofNat]; exact Nat.mod_eq_of_lt (by omega)
  obtain ⟨k, hk⟩ : ∃ k : Nat, a.toNat = 2 ^ 8 * k := ⟨a.toNat / 256, by omega⟩
  show IntKind.u64.wrap ((BitVec.ofInt 64 a ||| BitVec.ofInt 64 (c : Int)).toNat : Int) = _
  rw [BitVec.toNat_or, hA, hB, hk, ← Nat.two_pow_add_eq_or_of_lt (by omega : c < 2 ^ 8) k, ← hk, u64_wrap]
  omega
def numUL (bs : List UInt8) : Int := bs.foldl numU 0
theorem numUL_take (bs : List UInt8) (k : Nat) (h : k < bs.length) : numUL (bs.take (k + 1)) = numU (numUL (bs.take k)) bs[k] := by
  rw [List.take_succ_eq_append_getElem h]
  unfold numUL
  rw [List.foldl_append]
  rfl
theorem numUL_val (bs : List UInt8) : numUL bs = valN bs % 18446744073709551616 := by
  induction bs using snoc_cases with
  | h0 => simp [numUL, valN]
  | h1 bs c ih =>
    have e : numUL (bs ++ [c]) = numU (numUL bs) c := by simp [numUL]
    rw [e, or_byteU, ih, valN_snoc]
    omega
theorem numUL_num (bs : List UInt8) : wrap64 (numUL bs) = numL bs := by
  rw [numUL_val, numL_val]
  unfold wrap64
  omega
set_option maxHeartbeats 3200000 in
theorem l9Get_any (v : Value) (bs : List UInt8) (size : Nat) (w : World) (hl : bs.length ≤ 1048576) (h8 : size ≤ bs.length) (h : ByRd w v bs) : Calls Tryz.prog 63 #[v, .int .i64 (size : Int)] w fun e w' => e = .returned (.int .i64 (numL (bs.take size))) ∧ w' = w := by
  obtain ⟨a, c, rfl, hin, hcap⟩ := h
  by_cases hz : size = 0
  · subst hz
    generalize bs.length = n at *
    go_enter Tryz.func63, Tryz.ntmps63
    go_wp2_with fail
    refine wp_loop_rounds 1 ?_
    rw [rounds_succ]
    go_wp2_with fail
    go_ret
    exact ⟨rfl, rfl⟩
  obtain ⟨b, off, rfl, hb, hc⟩ : ∃ b off, a = some ⟨b, off, none⟩ ∧ b < w.heap.size ∧ ByAt w b off bs := by
    rcases hin with h0 | h0
    · rw [h0] at h8; simp at h8; omega
    · exact h0
  have HC := hide hc
  clear hc hin hz
  go_enter Tryz.func63, Tryz.ntmps63
  go_wp2_with fail
  go_loop [5, 6] (fun u i => ∃ k : Nat, k ≤ size ∧ i = .int .i64 k ∧ u = .int .u64 (numUL (bs.take k))) (fun _ i => size - (intOf i).toNat)
  case atStart => exact ⟨0, Nat.zero_le _, rfl, rfl⟩
  case round =>
    obtain ⟨k, hk, rfl, rfl⟩ := hrel
    by_cases hlt : k < size
    · have hkl : k < bs.length := by omega
      have c0 := unhide HC k hkl
      have HN := hide (numUL_take bs k hkl)
      unfold numU at HN
      have hy0 : (0 : Int) ≤ (bs[k].toNat : Int) := Int.natCast_nonneg _
      have hy1 : (bs[k].toNat : Int) ≤ 255 := by have := UInt8.toNat_lt bs[k]; omega
      have hki : (k : Int) < (size : Int) := by omega
      generalize numUL (bs.take k) = x at *
      generalize (bs[k].toNat : Int) = y at *
      go_wp2_with fail
      go_round
      case rel => exact ⟨k + 1, by omega, by go_num, by rw [unhide HN]⟩
      case measure => simp [intOf]; omega
    · obtain rfl : k = size := by omega
      have HE := hide (numUL_num (bs.take k))
      go_wp2_with fail
      go_ret
      exact ⟨ret_int (unhide HE), rfl⟩
set_option maxHeartbeats 3200000 in
theorem l9Put_any (B : Nat) (w : World) (a0 : Option Addr) (n0 c0 : Nat) (xs : List UInt8) (x : Int) (size : Nat) (hsz : size ≤ 8) (hxl : xs.length ≤ 1000000) (hB : B ≤ w.heap.size) (hv : ByRow B w (.slice a0 n0 c0) xs) :
    Calls Tryz.prog 65 #[.slice a0 n0 c0, .int .i64 x, .int .i64 (size : Int)] w fun e w' => RetPut (xs ++ beL x size) B (.slice a0 n0 c0) w e w' := by
  have HV := hide hv
  clear hv
  go_enter Tryz.func65, Tryz.ntmps65
  go_wp2_with fail
  go_loopw [0, 8] (fun v i wr => ∃ (j : Nat) (a : Option Addr) (n c : Nat) (ys : List UInt8), j ≤ size ∧ i = .int .i64 ((j : Int) - 1) ∧ v = .slice a n c ∧ Hid (ByRow B wr (.slice a n c) ys) ∧ Hid (ys ++ beL x j = xs ++ beL x size) ∧ Hid (Late (.slice a0 n0 c0) (.slice a n c) w) ∧ Hid (Turn (ownL (.slice a0 n0 c0)) w wr)) (fun _ i _ => (intOf i + 1).toNat)
  case atStart => exact ⟨size, _, _, _, xs, Nat.le_refl _, rfl, rfl, HV, rfl, hide (.inl rfl), Turn.refl _ _⟩
  case round =>
    obtain ⟨j, a2, n2, c2, ys, hj, rfl, rfl, HR2, HE2, HN2, HB2⟩ := hrel
    by_cases h0 : j = 0
    · subst h0
      have hz : ys = xs ++ beL x size := by have := unhide HE2; simpa [beL] using this
      rw [hz] at HR2
      clear HE2 hz
      go_wp2_with fail
      go_ret
      exact ⟨a2, n2, c2, rfl, hide ⟨unhide HR2, unhide HB2, unhide HN2⟩⟩
    · obtain ⟨q, rfl⟩ : ∃ q, j = q + 1 := ⟨j - 1, by omega⟩
      have hq8 : q < 8 := by omega
      have e1 : ((q + 1 : Nat) : Int) - 1 = (q : Int) := by omega
      rw [e1]
      have hl := hide (show ys.length + [beB x q].length ≤ 140737488355328 by
        have := congrArg List.length (unhide HE2)
        simp [beL_length] at this
        simp; omega)
      have HV2 := hide ((beB_val x q).trans (u64_byte x q hq8).symm)
      have h8 : (8 * (q : Int)).toNat = 8 * q := by omega
      have R1 := hide ((unhide HR2).up' (.cells #[.int .u8 (IntKind.u8.wrap (IntKind.u64.wrap x / 2 ^ (8 * q)))] 5))
      have U1 := hide (show ByRd (wr.alloc (.cells #[.int .u8 (IntKind.u8.wrap (IntKind.u64.wrap x / 2 ^ (8 * q)))] 5)) (.slice (some ⟨wr.heap.size, 0, none⟩) 1 1) [beB x q] by rw [← unhide HV2]; exact byCell1 wr (beB x q))
      have hBr : B ≤ wr.heap.size := Nat.le_trans hB (unhide HB2).size
      have B1 := hide ((unhide HB2).alloc (.cells #[.int .u8 (IntKind.u8.wrap (IntKind.u64.wrap x / 2 ^ (8 * q)))] 5))
      have hBr2 := hide (show B ≤ (wr.alloc (.cells #[.int .u8 (IntKind.u8.wrap (IntKind.u64.wrap x / 2 ^ (8 * q)))] 5)).heap.size by simp; omega)
      clear e1 hBr
      go_wp2_with (first
        | (at_builtin; refine wpList_byAppend rfl _ _ rfl B _ _ ys [beB x q] rfl rfl (unhide R1) (unhide U1) (unhide hl) (unhide hBr2) ?_; intro a3 c3 w3 r3 g3 o3; generalize ys.length + [beB x q].length = n3 at *; have HN3 := hide ((unhide HN2).trans (v2 := .slice a3 n3 c3) (w1 := wr.alloc (.cells #[.int .u8 (IntKind.u8.wrap (IntKind.u64.wrap x / 2 ^ (8 * q)))] 5)) o3 (unhide B1).size); clear o3; have R3 := hide r3; have B3 := hide ((unhide B1).grown' g3 (fun y hy => (unhide HN2).mem y hy)); clear r3 g3)
        | fail)
      go_roundw
      case rel => exact ⟨q, a3, n3, c3, ys ++ [beB x q], by omega, by go_num, rfl, R3, hide (by rw [List.append_assoc]; exact unhide HE2), HN3, B3⟩
      case measure => simp [intOf]
end Go.Proofs.YtiebfcefmdiajaaGreatDoor

set_option linter.unusedVariables false
namespace Go.Proofs.YtiebfcefmdiajaaGreatDoor
open Go.RowKit Go.Maps Go.Deep

def nameBytes (s : ByteArray) : List UInt8 := beB (s.size : Int) 0 :: s.data.toList
def verBytes (x : VerV) : List UInt8 := nameBytes x.a0 ++ beL x.a1 6
def stampBytes (ns : List VerV) : List UInt8 := ns.flatMap verBytes
def sayTail (s : SayV) : List UInt8 := if s.kind = 2 then beL s.val 8 ++ [beB (s.stamp.length : Int) 0] ++ stampBytes s.stamp else []
def sayBody (s : SayV) : List UInt8 := [beB s.kind 0, beB s.src 0, beB s.dst 0] ++ nameBytes s.name ++ sayTail s
def sayAll (s : SayV) : List UInt8 := sayBody s ++ beL (saySum (sayBody s)) 2
def sayBytesL (s : SayV) : List UInt8 := if sayOkB s then sayAll s else []
theorem stampBytes_take (ns : List VerV) (k : Nat) (h : k < ns.length) : stampBytes (ns.take (k + 1)) = stampBytes (ns.take k) ++ nameBytes ns[k].a0 ++ beL ns[k].a1 6 := by
  unfold stampBytes
  rw [List.take_succ_eq_append_getElem h, List.flatMap_append]
  simp [verBytes]
theorem nameBytes_len (s : ByteArray) : (nameBytes s).length = s.size + 1 := by simp [nameBytes]
theorem plain_szB {s : ByteArray} (h : plainB s = true) : s.size ≤ 8 := by
  simp only [plainB, Bool.and_eq_true, decide_eq_true_eq] at h
  exact h.1.2
theorem stampBytes_len (ns : List VerV) (h : ∀ x ∈ ns, x.a0.size ≤ 8) : (stampBytes ns).length ≤ ns.length * 15 := by
  induction ns with
  | nil => simp [stampBytes]
  | cons x xs ih =>
    have h1 := ih (fun y hy => h y (by simp [hy]))
    have h2 := h x (by simp)
    have e : stampBytes (x :: xs) = verBytes x ++ stampBytes xs := by simp [stampBytes]
    rw [e, List.length_append]
    simp only [verBytes, List.length_append, nameBytes_len, beL_length, List.length_cons]
    omega
theorem stamp_names {ns : List VerV} (h : stampB ns = true) : ns.length ≤ 12 ∧ ∀ x ∈ ns, plainB x.a0 = true ∧ 1 ≤ x.a1 ∧ x.a1 ≤ 1099511627776 := by
  simp only [stampB, Bool.and_eq_true, decide_eq_true_eq] at h
  refine ⟨h.1, fun x hx => ?_⟩
  obtain ⟨i, hi, rfl⟩ := List.getElem_of_mem hx
  have := (h.2 i hi hi).1
  simp only [verB, Bool.and_eq_true, decide_eq_true_eq] at this
  exact ⟨this.1.1, this.1.2, this.2⟩
/-- what a word that may be has -/
structure SayGood (s : SayV) : Prop where
  kind : s.kind = 1 ∨ s.kind = 2 ∨ s.kind = 3
  src : 0 ≤ s.src ∧ s.src ≤ 9
  dst : 0 ≤ s.dst ∧ s.dst ≤ 9
  name : plainB s.name = true
  tell : s.kind = 2 → 1 ≤ s.stamp.length ∧ stampB s.stamp = true
  bare : s.kind ≠ 2 → s.val = 0 ∧ s.stamp = []
theorem say_good {s : SayV} (h : sayOkB s = true) : SayGood s := by
  simp only [sayOkB, Bool.and_eq_true, decide_eq_true_eq] at h
  obtain ⟨⟨⟨⟨_, h1⟩, h2⟩, h3⟩, h4⟩ := h
  simp only [nodeB, Bool.and_eq_true, decide_eq_true_eq] at h1 h2
  unfold tailB at h4
  by_cases k2 : s.kind = 2
  · rw [if_pos k2] at h4
    simp only [Bool.and_eq_true, decide_eq_true_eq] at h4
    exact ⟨.inr (.inl k2), h1, h2, h3, fun _ => h4, fun h => absurd k2 h⟩
  · rw [if_neg k2] at h4
    by_cases k1 : s.kind = 1 ∨ s.kind = 3
    · rw [if_pos k1] at h4
      simp only [Bool.and_eq_true, decide_eq_true_eq] at h4
      exact ⟨k1.elim .inl (fun e => .inr (.inr e)), h1, h2, h3, fun e => absurd e k2, fun _ => ⟨h4.1, List.eq_nil_of_length_eq_zero h4.2⟩⟩
    · rw [if_neg k1] at h4
      cases h4
theorem sayBody_len {s : SayV} (h : SayGood s) : (sayBody s).length ≤ 210 := by
  have hn := plain_szB h.name
  unfold sayBody sayTail
  simp only [List.length_append, nameBytes_len]
  split
  · rename_i k2
    obtain ⟨h1, h2⟩ := stamp_names (h.tell k2).2
    have := stampBytes_len s.stamp (fun x hx => plain_szB (h2 x hx).1)
    simp only [List.length_append, beL_length, List.length_cons, List.length_nil]
    omega
  · simp
    omega
theorem sayAll_len {s : SayV} (h : SayGood s) : (sayAll s).length ≤ 212 := by
  have := sayBody_len h
  unfold sayAll
  rw [List.length_append, beL_length]
  omega
theorem sayBytesL_len (s : SayV) : (sayBytesL s).length ≤ 212 := by
  unfold sayBytesL
  split
  · rename_i h
    exact sayAll_len (say_good h)
  · simp
def RetSay (s : SayV) (w : World) (e : Ending) (w' : World) : Prop := ∃ a n c, e = .returned (.tuple #[.slice a n c, .bool (sayOkB s)]) ∧ ByRow w.heap.size w' (.slice a n c) (sayBytesL s) ∧ Below w.heap.size w w'
end Go.Proofs.YtiebfcefmdiajaaGreatDoor
