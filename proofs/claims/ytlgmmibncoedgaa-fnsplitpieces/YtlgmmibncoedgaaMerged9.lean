/-
  Numbers and their bytes: what is written is read back, and what is read is written so.
-/
/-
  The laws' helpers over bytes, in the form in which the walks of exact laws take them.
-/
import Derived.Test.YtlgmmibncoedgaaByReader
import Derived.Test.YtlgmmibncoedgaaByAppend
set_option linter.unusedVariables false
namespace Go.Proofs.Ytlgmmibncoedgaa
open Go.RowKit Go.Maps Go.Deep

def valN (bs : List UInt8) : Int := bs.foldl (fun x c => x * 256 + (c.toNat : Int)) 0
theorem valN_snoc (bs : List UInt8) (c : UInt8) : valN (bs ++ [c]) = valN bs * 256 + (c.toNat : Int) := by simp [valN]
theorem numL_snoc (bs : List UInt8) (c : UInt8) : numL (bs ++ [c]) = numF (numL bs) c := by simp [numL]
theorem snoc_cases {p : List UInt8 → Prop} (h0 : p []) (h1 : ∀ bs c, p bs → p (bs ++ [c])) (bs : List UInt8) : p bs := by
  have : ∀ n (bs : List UInt8), bs.length = n → p bs := by
    intro n
    induction n with
    | zero => intro bs h; rw [List.eq_nil_of_length_eq_zero h]; exact h0
    | succ n ih =>
      intro bs h
      obtain ⟨ys, c, rfl⟩ : ∃ ys c, bs = ys ++ [c] := ⟨bs.dropLast, bs.getLast (by intro e; simp [e] at h), (List.dropLast_concat_getLast _).symm⟩
      exact h1 ys c (ih ys (by simp at h; exact h))
  exact this _ bs rfl
theorem valN_ge (bs : List UInt8) : 0 ≤ valN bs := by
  induction bs using snoc_cases with
  | h0 => simp [valN]
  | h1 bs c ih => rw [valN_snoc]; omega
theorem wrap_step (y c : Int) : wrap64 (wrap64 y * 256 + c) = wrap64 (y * 256 + c) := by unfold wrap64; omega
theorem numL_val (bs : List UInt8) : numL bs = wrap64 (valN bs) := by
  induction bs using snoc_cases with
  | h0 => simp [numL, valN, wrap64]
  | h1 bs c ih => rw [numL_snoc, valN_snoc, or_byte, ih, wrap_step]
theorem beB_div (x : Int) (k : Nat) : beB x (k + 1) = beB (x / 256) k := by
  unfold beB
  have : x / 2 ^ (8 * (k + 1)) = x / 256 / 2 ^ (8 * k) := by
    rw [Int.ediv_ediv_of_nonneg (by omega), show (8 * (k + 1)) = 8 + 8 * k by omega, Int.pow_add]
    rfl
  rw [this]
theorem beL_snoc (x : Int) (n : Nat) : beL x (n + 1) = beL (x / 256) n ++ [beB x 0] := by
  induction n with
  | zero => rfl
  | succ n ih =>
    show beB x (n + 1) :: beL x (n + 1) = beB (x / 256) n :: beL (x / 256) n ++ [beB x 0]
    rw [ih, beB_div]
    rfl
theorem beB_low (v : Int) (c : UInt8) : beB (v * 256 + (c.toNat : Int)) 0 = c := by
  unfold beB
  have hc := UInt8.toNat_lt c
  have : ((v * 256 + (c.toNat : Int)) / 2 ^ (8 * 0) % 256).toNat = c.toNat := by simp; omega
  rw [this]
  simp
theorem beL_val (bs : List UInt8) : beL (valN bs) bs.length = bs := by
  induction bs using snoc_cases with
  | h0 => rfl
  | h1 bs c ih =>
    have hc := UInt8.toNat_lt c
    rw [List.length_append, List.length_singleton, beL_snoc, valN_snoc, beB_low, show (valN bs * 256 + (c.toNat : Int)) / 256 = valN bs by omega, ih]
theorem emod_two (x P : Int) (hp : 0 < P) : x % (256 * P) = x / 256 % P * 256 + x % 256 := by
  have h1 := Int.emod_add_mul_ediv x 256
  have h2 := Int.emod_add_mul_ediv (x / 256) P
  have r0 := Int.emod_nonneg (x / 256) (show P ≠ 0 by omega)
  have r1 := Int.emod_lt_of_pos (x / 256) hp
  have e : x = (x / 256 % P * 256 + x % 256) + (256 * P) * (x / 256 / P) := by
    have h3 : 256 * (x / 256) = 256 * (x / 256 % P) + 256 * P * (x / 256 / P) := by
      conv => lhs; rw [← h2]
      rw [Int.mul_add, Int.mul_assoc]
    omega
  conv => lhs; rw [e]
  rw [Int.add_mul_emod_self_left, Int.emod_eq_of_lt (by omega)]
  omega
theorem val_beL (x : Int) (n : Nat) : valN (beL x n) = x % 256 ^ n := by
  induction n generalizing x with
  | zero => simp [beL, valN]
  | succ n ih =>
    rw [beL_snoc, valN_snoc, ih]
    have hb : ((beB x 0).toNat : Int) = x % 256 := by rw [beB_val]; simp; rfl
    rw [hb, Int.pow_succ, Int.mul_comm (256 ^ n) 256]
    have hp : (0 : Int) < 256 ^ n := Int.pow_pos (by omega)
    exact (emod_two x _ hp).symm
theorem numL_beL (x : Int) (h0 : -9223372036854775808 ≤ x) (h1 : x ≤ 9223372036854775807) : numL (beL x 8) = x := by
  rw [numL_val, val_beL]
  have : (256 : Int) ^ 8 = 18446744073709551616 := by decide
  rw [this]
  unfold wrap64
  omega
theorem numL_be2 (x : Int) (h0 : 0 ≤ x) (h1 : x < 65536) : numL (beL x 2) = x := by
  rw [numL_val, val_beL]
  have : (256 : Int) ^ 2 = 65536 := by decide
  rw [this]
  unfold wrap64
  omega
theorem numL_be1 (x : Int) (h0 : 0 ≤ x) (h1 : x < 256) : numL [beB x 0] = x := by
  have := val_beL x 1
  rw [numL_val, show [beB x 0] = beL x 1 from rfl, this]
  simp
  unfold wrap64
  omega
theorem beB_wrap (y : Int) (k : Nat) (hk : k < 8) : beB (wrap64 y) k = beB y k := by
  unfold beB wrap64
  match k, hk with
  | 0, _ => congr 2; simp; omega
  | 1, _ => congr 2; simp; omega
  | 2, _ => congr 2; simp; omega
  | 3, _ => congr 2; simp; omega
  | 4, _ => congr 2; simp; omega
  | 5, _ => congr 2; simp; omega
  | 6, _ => congr 2; simp; omega
  | 7, _ => congr 2; simp; omega
theorem beL_wrap (y : Int) (n : Nat) (hn : n ≤ 8) : beL (wrap64 y) n = beL y n := by
  induction n with
  | zero => rfl
  | succ n ih =>
    show beB (wrap64 y) n :: beL (wrap64 y) n = beB y n :: beL y n
    rw [beB_wrap y n (by omega), ih (by omega)]
theorem beL_numL (bs : List UInt8) (h : bs.length ≤ 8) : beL (numL bs) bs.length = bs := by
  rw [numL_val, beL_wrap _ _ h, beL_val]
theorem numL_range (bs : List UInt8) : -9223372036854775808 ≤ numL bs ∧ numL bs ≤ 9223372036854775807 := by
  rw [numL_val]
  unfold wrap64
  omega
theorem numL_byte (c : UInt8) : numL [c] = (c.toNat : Int) := by
  have := UInt8.toNat_lt c
  rw [numL_val]
  simp [valN]
  unfold wrap64
  omega
theorem beB_byte (c : UInt8) : beB (c.toNat : Int) 0 = c := by simpa using beB_low 0 c
theorem takeL_app (xs ys : List UInt8) : takeL xs.length (xs ++ ys) = xs := by simp [takeL]
theorem leftL_app (xs ys : List UInt8) : leftL xs.length (xs ++ ys) = ys := by simp [leftL]
theorem shortB_app (xs ys : List UInt8) (s : Bool) : shortB xs.length (xs ++ ys) s = s := by simp [shortB]
/-- where nothing lacked -/
theorem took {n : Nat} {rest : List UInt8} {s : Bool} (h : shortB n rest s = false) : s = false ∧ (takeL n rest).length = n ∧ takeL n rest ++ leftL n rest = rest := by
  unfold shortB at h
  split at h
  · rename_i hn
    refine ⟨h, ?_, ?_⟩
    · rw [takeL, if_pos hn]; simp; omega
    · rw [takeL, if_pos hn, leftL, if_pos hn]; simp
  · cases h
end Go.Proofs.Ytlgmmibncoedgaa

set_option linter.unusedVariables false
namespace Go.Proofs.Ytlgmmibncoedgaa
open Go.RowKit Go.Maps Go.Deep

def SmallByteS (bs : List UInt8) : Prop := bs.length ≤ 1048576
def nByteS (bs : List UInt8) : Nat := bs.length
theorem nByteS_le {bs : List UInt8} (h : SmallByteS bs) : nByteS bs ≤ 100000000 := by unfold SmallByteS at h; unfold nByteS; omega
theorem ByRd.form {w : World} {v : Value} {bs : List UInt8} (h : ByRd w v bs) : ∃ a n c, v = .slice a n c := by
  obtain ⟨a, c, e⟩ := h.len
  exact ⟨a, _, c, e⟩
def ByFit (bs : List UInt8) : Prop := bs.length ≤ maxLen
theorem small_of_len {w : World} {a : Option Addr} {n c : Nat} {bs : List UInt8} (h : ByRd w (.slice a n c) bs) (hl : (n : Int) ≤ 1048576) : SmallByteS bs := by
  obtain ⟨a', c', e, _⟩ := h
  simp only [Value.slice.injEq] at e
  unfold SmallByteS
  omega
theorem toByteS_kit (bs : List UInt8) (v : Value) (w : World) (hs : SmallByteS bs) (h : ByRd w v bs) :
    Calls Try.prog 22 #[v] w fun e w' => ∃ v S, e = .returned v ∧ Hid (ByOwn S w' v bs) ∧ Hid (∀ k ∈ S, w.heap.size ≤ k) ∧ Below w.heap.size w w' := by
  obtain ⟨a, cap, rfl, h, _⟩ := h
  refine (toByteS_own w a cap bs hs h).mono ?_
  rintro e w' ⟨rfl, h1, h2, h3⟩
  exact ⟨_, _, rfl, h1, by intro k hk; simp at hk; omega, h3⟩
theorem eqByteS_kit (bs : List UInt8) (v v' : Value) (w : World) (hs : SmallByteS bs) (h : ByRd w v bs) (h' : ByRd w v' bs) :
    Calls Try.prog 24 #[v, v'] w fun e w' => e = .returned (.bool true) ∧ Below w.heap.size w w' := eqByteS_same w v v' bs (by unfold SmallByteS at hs; unfold maxLen; omega) h h'
def marksByteS (k : Nat) (bs : List UInt8) : List UInt8 := byMarks k bs.length
theorem markByteS_kit (S : List Nat) (bs : List UInt8) (v : Value) (w : World) (k n : Nat) (K : Int) (hK : K = (k : Int)) (hn : nByteS bs = n) (hk : k ≤ 1000000000) (hs : SmallByteS bs) (h : ByOwn S w v bs) :
    Calls Try.prog 25 #[v, .int .i64 K] w fun e w' => e = .returned (.int .i64 (K + (n : Int))) ∧ Hid (ByOwn S w' v (marksByteS k bs) ∧ Turn S w w') := by
  subst hK hn
  exact markByteS_any S w v bs k (by omega) hs h
end Go.Proofs.Ytlgmmibncoedgaa
