/-
  Numbers as bytes, the highest first: what stands in them, and both sides' ways to write them; texts behind bytes.
-/
import Derived.Test.YtnildacialaagaaByFuncs
import Derived.Lib.AppendStr
set_option linter.unusedVariables false
namespace Go.Proofs.Ytnildacialaagaa
open Go.RowKit Go.Maps Go.Deep

/-- the byte of a number at a place, from the lowest on -/
def beB (x : Int) (k : Nat) : UInt8 := UInt8.ofNat ((x / 2 ^ (8 * k)) % 256).toNat
/-- a number in n bytes, the highest first -/
def beL (x : Int) : Nat → List UInt8
  | 0 => []
  | n + 1 => beB x n :: beL x n
theorem beL_length (x : Int) (n : Nat) : (beL x n).length = n := by
  induction n with
  | zero => rfl
  | succ n ih => simp [beL, ih]
theorem beB_val (x : Int) (k : Nat) : ((beB x k).toNat : Int) = IntKind.u8.wrap (x / 2 ^ (8 * k)) := by
  unfold beB
  rw [UInt8.toNat_ofNat']
  show _ = (x / 2 ^ (8 * k)) % 256
  generalize x / 2 ^ (8 * k) = y
  omega
theorem u64_byte (x : Int) (k : Nat) (hk : k < 8) : IntKind.u8.wrap (IntKind.u64.wrap x / 2 ^ (8 * k)) = IntKind.u8.wrap (x / 2 ^ (8 * k)) := by
  show (x % 18446744073709551616 / 2 ^ (8 * k)) % 256 = (x / 2 ^ (8 * k)) % 256
  match k, hk with
  | 0, _ => simp
  | 1, _ => simp; omega
  | 2, _ => simp; omega
  | 3, _ => simp; omega
  | 4, _ => simp; omega
  | 5, _ => simp; omega
  | 6, _ => simp; omega
  | 7, _ => simp; omega
theorem byCell1 (w : World) (c : UInt8) : ByRd (w.alloc (.cells #[.int .u8 (c.toNat : Int)] 5)) (.slice (some ⟨w.heap.size, 0, none⟩) 1 1) [c] := by
  refine ⟨_, 1, rfl, .inr ⟨w.heap.size, 0, rfl, by simp, fun i hi => ?_⟩, Nat.le_refl _⟩
  obtain rfl : i = 0 := by simpa using hi
  rw [World.cell?_alloc_at _ _ _ _ (by simp)]
  rfl
theorem ByRow.up' {B : Nat} {w : World} {v : Value} {bs : List UInt8} (h : ByRow B w v bs) (o : Obj) : ByRow B (w.alloc o) v bs := h.up ((Below.refl _ _).alloc (Nat.le_refl _) _)


/-- a text behind a row of bytes, at the operation -/
theorem wpList_byAppendStr {w : World} {ops : Array Oper} {rest : List Oper} {o : Oper} {a : Act} {Q : Exit → Act → World → Prop} (hgd : o.guard = none) (s x : Operand)
    (ho : o.op = .call { callee := .builtin .append, args := #[s, x], argTypes := #[22, 9] }) (B : Nat) (v : Value) (t : ByteArray) (xs : List UInt8) (hs : a.eval s = v) (hx : a.eval x = .string t)
    (hv : ByRow B w v xs) (hl : xs.length + t.size ≤ 140737488355328) (hB : B ≤ w.heap.size)
    (h : ∀ a' n c w', ByRow B w' (.slice a' n c) (xs ++ t.data.toList) → w.grownBy w' v.ownBlock → wpList Try.prog ops Q rest (a.put o.dst (.slice a' n c)) w') : wpList Try.prog ops Q (o :: rest) a w := by
  obtain ⟨i0, hi, hz0, hz1, hz2⟩ := info_parts1 infoByte
  refine Lib.wpList_append_own_string _ hgd s x 22 9 ho B 5 i0 Try.underlying22 Try.underlying9 hi hz0 hz1 hz2 v xs.length (xs.map byV) hs hv t hx (by unfold maxLen; omega) hl hB ?_
  intro v' w' h1 h2 _
  have hr : ByRow B w' v' (xs ++ t.data.toList) := by
    unfold ByRow
    rw [List.length_append, List.map_append]
    exact h1
  obtain ⟨a', c, rfl⟩ := hr.slice
  exact h a' _ c w' hr h2

theorem step_byAppendStr {w : World} {ops : Array Oper} {o : Oper} {a : Act} {K : Act → World → Prop} {Q : Exit → Act → World → Prop} {E : Prop} (hgd : o.guard = none) (s x : Operand)
    (ho : o.op = .call { callee := .builtin .append, args := #[s, x], argTypes := #[22, 9] }) (B : Nat) (v : Value) (t : ByteArray) (xs : List UInt8) (hs : a.eval s = v) (hx : a.eval x = .string t)
    (hv : ByRow B w v xs) (hl : xs.length + t.size ≤ 140737488355328) (hB : B ≤ w.heap.size)
    (h : ∀ a' n c w', ByRow B w' (.slice a' n c) (xs ++ t.data.toList) → w.grownBy w' v.ownBlock → K (a.put o.dst (.slice a' n c)) w') :
    if Region.wanted o (yielded ops a.tmps) = true then Oper.wp Try.prog o a w K Q else E := by
  have hw : Region.wanted o (yielded ops a.tmps) = true := by simp [Region.wanted, hgd]
  rw [if_pos hw]
  obtain ⟨i0, hi, hz0, hz1, hz2⟩ := info_parts1 infoByte
  obtain ⟨v', w', hr, h1, h2, _⟩ := Lib.run_append_own_string (P := Try.prog) w B 22 9 o.type 5 i0 Try.underlying22 Try.underlying9 hi hz0 hz1 hz2 v xs.length (xs.map byV) hv t (by unfold maxLen; omega) hl hB
  have hrow : ByRow B w' v' (xs ++ t.data.toList) := by
    unfold ByRow
    rw [List.length_append, List.map_append]
    exact h1
  obtain ⟨a', c, rfl⟩ := hrow.slice
  unfold Oper.wp execOp
  simp only [ho, resolve, invoke, builtin, Sem.run_bind, Sem.run_pure, Result.andThen_ok, List.map_toArray, List.map_cons, List.map_nil, hs, hx, hr]
  exact h a' _ c w' hrow h2
def BoxIs' (w : World) (g : Nat) (x : Int) : Prop := g < w.heap.size ∧ w.cell? ⟨g, 0, none⟩ = some (.int .i64 x)
theorem numsOne (w : World) (x : Int) (T : TypeId) : BoxIs' (w.alloc (.cells #[.int .i64 x] T)) w.heap.size x := by
  unfold BoxIs'
  exact ⟨by simp, by rw [World.cell?_alloc_at _ _ _ _ (by simp)]; rfl⟩

def putL (size : Nat) (ns : List Int) : List UInt8 := ns.flatMap (fun x => beL x size)
theorem putL_take (size : Nat) (ns : List Int) (k : Nat) (h : k < ns.length) : putL size (ns.take (k + 1)) = putL size (ns.take k) ++ beL ns[k] size := by
  unfold putL
  rw [List.take_succ_eq_append_getElem h, List.flatMap_append]
  simp
theorem putL_len (size : Nat) (ns : List Int) : (putL size ns).length = ns.length * size := by
  induction ns with
  | nil => simp [putL]
  | cons x xs ih =>
    have : putL size (x :: xs) = beL x size ++ putL size xs := by simp [putL]
    rw [this, List.length_append, ih, beL_length, List.length_cons, Nat.add_mul, Nat.one_mul, Nat.add_comm]
/-- numbers lie one behind the other -/
def NumsAt (w : World) (b : Nat) (ns : List Int) : Prop := b < w.heap.size ∧ ∀ i (h : i < ns.length), w.cell? ⟨b, i, none⟩ = some (.int .i64 ns[i])
def ownL (v : Value) : List Nat := v.ownBlock.toList
/-- the row lies where it lay, or in a new block -/
def Late (v0 v : Value) (w : World) : Prop := v.ownBlock = v0.ownBlock ∨ ∀ g, v.ownBlock = some g → w.heap.size ≤ g
theorem Turn.grown' {S : List Nat} {a b c : World} {row : Option Nat} (h : Turn S a b) (hg : b.grownBy c row) (hr : ∀ k, row = some k → k ∈ S ∨ a.heap.size ≤ k) : Turn S a c :=
  ⟨hg.os.trans h.os, hg.tape.trans h.tape, hg.output.trans h.output, Nat.le_trans h.size hg.size, fun k hk hS => (hg.block k (Nat.lt_of_lt_of_le hk h.size) (fun e => (hr k e.symm).elim hS (fun q => by omega))).trans (h.block k hk hS)⟩
theorem Late.mem {v0 v : Value} {w : World} (h : Late v0 v w) : ∀ k, v.ownBlock = some k → k ∈ ownL v0 ∨ w.heap.size ≤ k := by
  intro k hk
  rcases h with e | e
  · left
    unfold ownL
    rw [← e, hk]
    simp
  · exact .inr (e k hk)
theorem Late.trans {v0 v1 v2 : Value} {w w1 : World} (h : Late v0 v1 w) (h2 : Late v1 v2 w1) (hz : w.heap.size ≤ w1.heap.size) : Late v0 v2 w := by
  rcases h2 with e | e
  · rcases h with q | q
    · exact .inl (e.trans q)
    · exact .inr (fun g hg => q g (e ▸ hg))
  · exact .inr (fun g hg => Nat.le_trans hz (e g hg))
theorem ownL_ge {B : Nat} {w : World} {v : Value} {bs : List UInt8} (h : ByRow B w v bs) : ∀ k ∈ ownL v, B ≤ k := by
  intro k hk
  exact h.ge k (by simpa [ownL] using hk)
def RetPut (bs : List UInt8) (B : Nat) (v0 : Value) (w : World) (e : Ending) (w' : World) : Prop := ∃ a n c, e = .returned (.slice a n c) ∧ Hid (ByRow B w' (.slice a n c) bs ∧ Turn (ownL v0) w w' ∧ Late v0 (.slice a n c) w)
theorem nums1 {w : World} {g : Nat} {x : Int} (h : BoxIs' w g x) : NumsAt w g [x] := ⟨h.1, fun i hi => by
  obtain rfl : i = 0 := by simpa using hi
  exact h.2⟩
theorem nums2 (w : World) (x y : Int) (T : TypeId) : NumsAt (w.alloc (.cells #[.int .i64 x, .int .i64 y] T)) w.heap.size [x, y] := ⟨by simp, fun i hi => by
  rw [World.cell?_alloc_at _ _ _ _ (by simp)]
  match i, hi with
  | 0, _ => rfl
  | 1, _ => rfl⟩
end Go.Proofs.Ytnildacialaagaa
