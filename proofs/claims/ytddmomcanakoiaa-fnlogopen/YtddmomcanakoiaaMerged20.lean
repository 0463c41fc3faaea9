/-
  Rows of records: a whole row appended to one's own row.
-/
/-
  Numbers and their bytes: what is written is read back, and what is read is written so.
-/
import Derived.Test.YtddmomcanakoiaaMerged26
import Derived.Test.YtddmomcanakoiaaMerged28
import Derived.Test.YtddmomcanakoiaaBoxes
import Derived.Test.YtddmomcanakoiaaByReader
set_option linter.unusedVariables false
namespace Go.Proofs.Ytddmomcanakoiaa
open Go.RowKit Go.Maps Go.Deep

theorem rcOne (ys : List RecV) : ∀ u ∈ rcCells ys, u.oneCell' = true := by
  intro u hu
  unfold rcCells at hu
  simp only [List.mem_flatMap, List.mem_cons, List.not_mem_nil, or_false] at hu
  obtain ⟨x, _, rfl | rfl | rfl | rfl⟩ := hu <;> rfl
theorem rcNews {w : World} {b off : Nat} {ys : List RecV} (h : RecAt w b off ys) : ∀ j u, (rcCells ys)[j]? = some u → w.cell? ((⟨b, off, none⟩ : Addr).add j) = some u := by
  intro j u hj
  have hadd : (⟨b, off, none⟩ : Addr).add j = ⟨b, off + j, none⟩ := by
    by_cases e : j = 0
    · subst e; simp [Addr.add]
    · simp [Addr.add, e]
  rw [hadd]
  have hlt : j < (rcCells ys).length := by
    rcases Nat.lt_or_ge j (rcCells ys).length with h | h
    · exact h
    · rw [List.getElem?_eq_none h] at hj; cases hj
  rw [rcCells_len] at hlt
  have hi : j / 4 < ys.length := by omega
  obtain ⟨e0, e1, e2, e3⟩ := rcCells_get ys (j / 4) hi
  obtain ⟨c0, c1, c2, c3⟩ := h (j / 4) hi
  have hm : j = j / 4 * 4 + j % 4 := by omega
  have h4 : j % 4 < 4 := Nat.mod_lt _ (by omega)
  generalize j / 4 = q at *
  generalize j % 4 = m at *
  subst hm
  match m, h4 with
  | 0, _ => rw [Nat.add_zero] at hj ⊢; rw [e0] at hj; cases hj; exact c0
  | 1, _ => rw [e1] at hj; cases hj; exact c1
  | 2, _ => rw [e2] at hj; cases hj; exact c2
  | 3, _ => rw [e3] at hj; cases hj; exact c3
theorem rcsAppend_run (B : Nat) (w : World) (v u : Value) (xs ys : List RecV) (hv : RcRow B w v xs) (hu : RecSRd w u ys) (h0 : ys ≠ []) (hl : xs.length + ys.length ≤ 1000000) (hB : B ≤ w.heap.size) (ty : TypeId) :
    ∃ g c w', (Builtin.append_ #[23, 23] ty #[v, u]).run Try.prog w = .ok (.slice (some ⟨g, 0, none⟩) (xs.length + ys.length) c) w' ∧ RcRow B w' (.slice (some ⟨g, 0, none⟩) (xs.length + ys.length) c) (xs ++ ys) ∧ w.grownBy w' v.ownBlock ∧ (v.ownBlock = some g ∨ g = w.heap.size) := by
  obtain ⟨i0, hi, hz0, hz1, hz2⟩ := info_parts1 infoRc
  obtain ⟨au, cu, rfl, hin⟩ := hu
  obtain ⟨b, off, rfl, hb, hc⟩ := hin.resolve_left h0
  have hpos : 0 < ys.length := List.length_pos_iff.2 h0
  obtain ⟨g, cap, w', h1, h2, h3, h4, h5⟩ := run_append_lies (P := Try.prog) (w := w) 23 ty B 32 i0 _ 4 48 Try.underlying23 hi hz0 hz1 hz2 rfl (by decide) v xs.length (rcCells xs) hv ⟨b, off, none⟩ ys.length cu (rcCells ys) (by rw [rcCells_len]) (rcNews hc) (rcOne ys) hpos (by unfold maxLen; omega) (by omega) hB w.heap.size rfl
  refine ⟨g, cap, w', h1, ?_, h3, h4⟩
  unfold RcRow
  rw [List.length_append, show rcCells (xs ++ ys) = rcCells xs ++ rcCells ys by simp [rcCells]]
  exact h2
theorem rcsAppend_any (B : Nat) (w : World) (v u : Value) (xs ys : List RecV) (hv : RcRow B w v xs) (hu : RecSRd w u ys) (hl : xs.length + ys.length ≤ 1000000) (hB : B ≤ w.heap.size) (ty : TypeId) :
    ∃ a c w', (Builtin.append_ #[23, 23] ty #[v, u]).run Try.prog w = .ok (.slice a (xs.length + ys.length) c) w' ∧ RcRow B w' (.slice a (xs.length + ys.length) c) (xs ++ ys) ∧ w.grownBy w' v.ownBlock := by
  obtain ⟨i0, hi, hz0, hz1, hz2⟩ := info_parts1 infoRc
  by_cases h0 : ys = []
  · subst h0
    obtain ⟨au, cu, rfl, hin⟩ := hu
    cases au with
    | none =>
      obtain ⟨a, c, rfl⟩ := hv.slice
      exact ⟨a, c, w, run_append_none B _ ty _ i0 4 cu Try.underlying23 hi _ _ _ hv, by simpa using hv, grown_self _ _⟩
    | some ad =>
      obtain ⟨a, c, rfl⟩ := hv.slice
      exact ⟨a, c, w, run_append_zero B _ ty _ i0 4 cu ad Try.underlying23 hi _ _ _ hv, by simpa using hv, grown_self _ _⟩
  · obtain ⟨g, c, w', h1, h2, h3, _⟩ := rcsAppend_run B w v u xs ys hv hu h0 hl hB ty
    exact ⟨_, c, w', h1, h2, h3⟩
/-- at a step of a region that draws its order; the step may have a guard -/
theorem step_rcsAppend {w : World} {ops : Array Oper} {o : Oper} {a : Act} {K : Act → World → Prop} {Q : Exit → Act → World → Prop} {E : Prop} (hw : Region.wanted o (yielded ops a.tmps) = true) (s x : Operand)
    (ho : o.op = .call { callee := .builtin .append, args := #[s, x], argTypes := #[23, 23] }) (B : Nat) (v u : Value) (xs ys : List RecV) (hs : a.eval s = v) (hx : a.eval x = u)
    (hv : RcRow B w v xs) (hu : RecSRd w u ys) (hl : xs.length + ys.length ≤ 1000000) (hB : B ≤ w.heap.size)
    (h : ∀ a' n c w', n = xs.length + ys.length → RcRow B w' (.slice a' n c) (xs ++ ys) → w.grownBy w' v.ownBlock → K (a.put o.dst (.slice a' n c)) w') :
    if Region.wanted o (yielded ops a.tmps) = true then Oper.wp Try.prog o a w K Q else E := by
  rw [if_pos hw]
  obtain ⟨a', c, w', h1, h2, h3⟩ := rcsAppend_any B w v u xs ys hv hu hl hB o.type
  unfold Oper.wp execOp
  simp only [ho, resolve, invoke, builtin, Sem.run_bind, Sem.run_pure, Result.andThen_ok, List.map_toArray, List.map_cons, List.map_nil, hs, hx, h1]
  exact h a' _ c w' rfl h2 h3
theorem rcLit0 (w : World) (B : Nat) (hB : B ≤ w.heap.size) : RcRow B (w.alloc (.cells #[] 32)) (.slice (some ⟨w.heap.size, 0, none⟩) 0 0) [] :=
  World.ownsRow_lit (size := 4) w #[] 0 hB (by unfold maxLen; omega) rfl
theorem rcLit1 (w : World) (x : RecV) : RecSRd (w.alloc (.cells #[.int .i64 x.kind, .string x.name, .int .i64 x.num, .string x.text] 32)) (.slice (some ⟨w.heap.size, 0, none⟩) 1 1) [x] := by
  obtain ⟨⟨c0, c1, c2, c3⟩, _⟩ := (boxF_new4 w (.int .i64 x.kind) (.string x.name) (.int .i64 x.num) (.string x.text) 32).four
  refine ⟨_, 1, rfl, .inr ⟨w.heap.size, 0, rfl, by simp, fun i hi => ?_⟩⟩
  obtain rfl : i = 0 := by simp at hi; omega
  exact ⟨c0, c1, c2, c3⟩
end Go.Proofs.Ytddmomcanakoiaa

set_option linter.unusedVariables false
namespace Go.Proofs.Ytddmomcanakoiaa
open Go.RowKit Go.Maps Go.Deep

def valN (bs : List UInt8) : Int := bs.foldl (fun x c => x * 256 + (c.toNat : Int)) 0
theorem valN_snoc (bs : List UInt8) (c : UInt8) : valN (bs ++ [c]) = valN bs * 256 + (c.toNat : Int) := by simp [valN]
theorem numL_snoc (bs : List UInt8) (c : UInt8) : numL (bs ++ [c]) = numF (numL bs) c := by simp [numL]
theorem snoc_cases {p : List UInt8 → Prop} (h0 : p []) (h1 : ∀ bs c, p bs → p (bs ++ [c])) (bs : List UInt8) : p bs := by
  have : ∀ n (bs : List UInt8), bs.length = n → p bs := by
    intro n
    induction n with
    | zero => intro bs h; rw [List.eq_nil_of_length_eq_zero h]; exact h0
    | succ n ih =>
      intro bs h
      obtain ⟨ys, c, rfl⟩ : ∃ ys c, bs = ys ++ [c] := ⟨bs.dropLast, bs.getLast (by intro e; simp [e] at h), (List.dropLast_concat_getLast _).symm⟩
      exact h1 ys c (ih ys (by simp at h; exact h))
  exact this _ bs rfl
theorem valN_ge (bs : List UInt8) : 0 ≤ valN bs := by
  induction bs using snoc_cases with
  | h0 => simp [valN]
  | h1 bs c ih => rw [valN_snoc]; omega
theorem wrap_step (y c : Int) : wrap64 (wrap64 y * 256 + c) = wrap64 (y * 256 + c) := by unfold wrap64; omega
theorem numL_val (bs : List UInt8) : numL bs = wrap64 (valN bs) := by
  induction bs using snoc_cases with
  | h0 => simp [numL, valN, wrap64]
  | h1 bs c ih => rw [numL_snoc, valN_snoc, or_byte, ih, wrap_step]
theorem beB_div (x : Int) (k : Nat) : beB x (k + 1) = beB (x / 256) k := by
  unfold beB
  have : x / 2 ^ (8 * (k + 1)) = x / 256 / 2 ^ (8 * k) := by
    rw [Int.ediv_ediv_of_nonneg (by omega), show (8 * (k + 1)) = 8 + 8 * k by omega, Int.pow_add]
    rfl
  rw [this]
theorem beL_snoc (x : Int) (n : Nat) : beL x (n + 1) = beL (x / 256) n ++ [beB x 0] := by
  induction n with
  | zero => rfl
  | succ n ih =>
    show beB x (n + 1) :: beL x (n + 1) = beB (x / 256) n :: beL (x / 256) n ++ [beB x 0]
    rw [ih, beB_div]
    rfl
theorem beB_low (v : Int) (c : UInt8) : beB (v * 256 + (c.toNat : Int)) 0 = c := by
  unfold beB
  have hc := UInt8.toNat_lt c
  have : ((v * 256 + (c.toNat : Int)) / 2 ^ (8 * 0) % 256).toNat = c.toNat := by simp; omega
  rw [this]
  simp
theorem beL_val (bs : List UInt8) : beL (valN bs) bs.length = bs := by
  induction bs using snoc_cases with
  | h0 => rfl
  | h1 bs c ih =>
    have hc := UInt8.toNat_lt c
    rw [List.length_append, List.length_singleton, beL_snoc, valN_snoc, beB_low, show (valN bs * 256 + (c.toNat : Int)) / 256 = valN bs by omega, ih]
theorem emod_two (x P : Int) (hp : 0 < P) : x % (256 * P) = x / 256 % P * 256 + x % 256 := by
  have h1 := Int.emod_add_mul_ediv x 256
  have h2 := Int.emod_add_mul_ediv (x / 256) P
  have r0 := Int.emod_nonneg (x / 256) (show P ≠ 0 by omega)
  have r1 := Int.emod_lt_of_pos (x / 256) hp
  have e : x = (x / 256 % P * 256 + x % 256) + (256 * P) * (x / 256 / P) := by
    have h3 : 256 * (x / 256) = 256 * (x / 256 % P) + 256 * P * (x / 256 / P) := by
      conv => lhs; rw [← h2]
      rw [Int.mul_add, Int.mul_assoc]
    omega
  conv => lhs; rw [e]
  rw [Int.add_mul_emod_self_left, Int.emod_eq_of_lt (by omega)]
  omega
theorem val_beL (x : Int) (n : Nat) : valN (beL x n) = x % 256 ^ n := by
  induction n generalizing x with
  | zero => simp [beL, valN]
  | succ n ih =>
    rw [beL_snoc, valN_snoc, ih]
    have hb : ((beB x 0).toNat : Int) = x % 256 := by rw [beB_val]; simp; rfl
    rw [hb, Int.pow_succ, Int.mul_comm (256 ^ n) 256]
    have hp : (0 : Int) < 256 ^ n := Int.pow_pos (by omega)
    exact (emod_two x _ hp).symm
theorem numL_beL (x : Int) (h0 : -9223372036854775808 ≤ x) (h1 : x ≤ 9223372036854775807) : numL (beL x 8) = x := by
  rw [numL_val, val_beL]
  have : (256 : Int) ^ 8 = 18446744073709551616 := by decide
  rw [this]
  unfold wrap64
  omega
theorem numL_be2 (x : Int) (h0 : 0 ≤ x) (h1 : x < 65536) : numL (beL x 2) = x := by
  rw [numL_val, val_beL]
  have : (256 : Int) ^ 2 = 65536 := by decide
  rw [this]
  unfold wrap64
  omega
theorem numL_be1 (x : Int) (h0 : 0 ≤ x) (h1 : x < 256) : numL [beB x 0] = x := by
  have := val_beL x 1
  rw [numL_val, show [beB x 0] = beL x 1 from rfl, this]
  simp
  unfold wrap64
  omega
theorem beB_wrap (y : Int) (k : Nat) (hk : k < 8) : beB (wrap64 y) k = beB y k := by
  unfold beB wrap64
  match k, hk with
  | 0, _ => congr 2; simp; omega
  | 1, _ => congr 2; simp; omega
  | 2, _ => congr 2; simp; omega
  | 3, _ => congr 2; simp; omega
  | 4, _ => congr 2; simp; omega
  | 5, _ => congr 2; simp; omega
  | 6, _ => congr 2; simp; omega
  | 7, _ => congr 2; simp; omega
theorem beL_wrap (y : Int) (n : Nat) (hn : n ≤ 8) : beL (wrap64 y) n = beL y n := by
  induction n with
  | zero => rfl
  | succ n ih =>
    show beB (wrap64 y) n :: beL (wrap64 y) n = beB y n :: beL y n
    rw [beB_wrap y n (by omega), ih (by omega)]
theorem beL_numL (bs : List UInt8) (h : bs.length ≤ 8) : beL (numL bs) bs.length = bs := by
  rw [numL_val, beL_wrap _ _ h, beL_val]
theorem numL_range (bs : List UInt8) : -9223372036854775808 ≤ numL bs ∧ numL bs ≤ 9223372036854775807 := by
  rw [numL_val]
  unfold wrap64
  omega
theorem numL_byte (c : UInt8) : numL [c] = (c.toNat : Int) := by
  have := UInt8.toNat_lt c
  rw [numL_val]
  simp [valN]
  unfold wrap64
  omega
theorem beB_byte (c : UInt8) : beB (c.toNat : Int) 0 = c := by simpa using beB_low 0 c
theorem takeL_app (xs ys : List UInt8) : takeL xs.length (xs ++ ys) = xs := by simp [takeL]
theorem leftL_app (xs ys : List UInt8) : leftL xs.length (xs ++ ys) = ys := by simp [leftL]
theorem shortB_app (xs ys : List UInt8) (s : Bool) : shortB xs.length (xs ++ ys) s = s := by simp [shortB]
/-- where nothing lacked -/
theorem took {n : Nat} {rest : List UInt8} {s : Bool} (h : shortB n rest s = false) : s = false ∧ (takeL n rest).length = n ∧ takeL n rest ++ leftL n rest = rest := by
  unfold shortB at h
  split at h
  · rename_i hn
    refine ⟨h, ?_, ?_⟩
    · rw [takeL, if_pos hn]; simp; omega
    · rw [takeL, if_pos hn, leftL, if_pos hn]; simp
  · cases h
end Go.Proofs.Ytddmomcanakoiaa
