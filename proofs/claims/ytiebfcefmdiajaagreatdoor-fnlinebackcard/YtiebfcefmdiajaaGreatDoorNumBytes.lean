/-
  Numbers as bytes, the highest first: what stands in them, and both sides' ways to write them; texts behind bytes.
-/
import Derived.Test.YtiebfcefmdiajaaGreatDoorMerged7
import Derived.Lib.AppendStr
set_option linter.unusedVariables false
namespace Go.Proofs.YtiebfcefmdiajaaGreatDoor
open Go.RowKit Go.Maps Go.Deep

/-- the byte of a number at a place, from the lowest on -/
def beB (x : Int) (k : Nat) : UInt8 := UInt8.ofNat ((x / 2 ^ (8 * k)) % 256).toNat
/-- a number in n bytes, the highest first -/
def beL (x : Int) : Nat → List UInt8
  | 0 => []
  | n + 1 => beB x n :: beL x n
theorem beL_length (x : Int) (n : Nat) : (beL x n).length = n := by
  induction n with
  | zero => rfl
  | succ n ih => simp [beL, ih]
theorem beB_val (x : Int) (k : Nat) : ((beB x k).toNat : Int) = IntKind.u8.wrap (x / 2 ^ (8 * k)) := by
  unfold beB
  rw [UInt8.toNat_ofNat']
  show _ = (x / 2 ^ (8 * k)) % 256
  generalize x / 2 ^ (8 * k) = y
  omega
theorem u64_byte (x : Int) (k : Nat) (hk : k < 8) : IntKind.u8.wrap (IntKind.u64.wrap x / 2 ^ (8 * k)) = IntKind.u8.wrap (x / 2 ^ (8 * k)) := by
  show (x % 18446744073709551616 / 2 ^ (8 * k)) % 256 = (x / 2 ^ (8 * k)) % 256
  match k, hk with
  | 0, _ => simp
  | 1, _ => simp; omega
  | 2, _ => simp; omega
  | 3, _ => simp; omega
  | 4, _ => simp; omega
  | 5, _ => simp; omega
  | 6, _ => simp; omega
  | 7, _ => simp; omega
theorem byCell1 (w : World) (c : UInt8) : ByRd (w.alloc (.cells #[.int .u8 (c.toNat : Int)] 5)) (.slice (some ⟨w.heap.size, 0, none⟩) 1 1) [c] := by
  refine ⟨_, 1, rfl, .inr ⟨w.heap.size, 0, rfl, by simp, fun i hi => ?_⟩, Nat.le_refl _⟩
  obtain rfl : i = 0 := by simpa using hi
  rw [World.cell?_alloc_at _ _ _ _ (by simp)]
  rfl
theorem ByRow.up' {B : Nat} {w : World} {v : Value} {bs : List UInt8} (h : ByRow B w v bs) (o : Obj) : ByRow B (w.alloc o) v bs := h.up ((Below.refl _ _).alloc (Nat.le_refl _) _)


/-- a text behind a row of bytes, at the operation -/
theorem wpList_byAppendStr {w : World} {ops : Array Oper} {rest : List Oper} {o : Oper} {a : Act} {Q : Exit → Act → World → Prop} (hgd : o.guard = none) (s x : Operand)
    (ho : o.op = .call { callee := .builtin .append, args := #[s, x], argTypes := #[30, 9] }) (B : Nat) (v : Value) (t : ByteArray) (xs : List UInt8) (hs : a.eval s = v) (hx : a.eval x = .string t)
    (hv : ByRow B w v xs) (hl : xs.length + t.size ≤ 140737488355328) (hB : B ≤ w.heap.size)
    (h : ∀ a' n c w', ByRow B w' (.slice a' n c) (xs ++ t.data.toList) → w.grownBy w' v.ownBlock → wpList Tryz.prog ops Q rest (a.put o.dst (.slice a' n c)) w') : wpList Tryz.prog ops Q (o :: rest) a w := by
  obtain ⟨i0, hi, hz0, hz1, hz2⟩ := info_parts1 infoByte
  refine Lib.wpList_append_own_string _ hgd s x 30 9 ho B 5 i0 Tryz.underlying30 Tryz.underlying9 hi hz0 hz1 hz2 v xs.length (xs.map byV) hs hv t hx (by unfold maxLen; omega) hl hB ?_
  intro v' w' h1 h2 _
  have hr : ByRow B w' v' (xs ++ t.data.toList) := by
    unfold ByRow
    rw [List.length_append, List.map_append]
    exact h1
  obtain ⟨a', c, rfl⟩ := hr.slice
  exact h a' _ c w' hr h2

theorem step_byAppendStr {w : World} {ops : Array Oper} {o : Oper} {a : Act} {K : Act → World → Prop} {Q : Exit → Act → World → Prop} {E : Prop} (hgd : o.guard = none) (s x : Operand)
    (ho : o.op = .call { callee := .builtin .append, args := #[s, x], argTypes := #[30, 9] }) (B : Nat) (v : Value) (t : ByteArray) (xs : List UInt8) (hs : a.eval s = v) (hx : a.eval x = .string t)
    (hv : ByRow B w v xs) (hl : xs.length + t.size ≤ 140737488355328) (hB : B ≤ w.heap.size)
    (h : ∀ a' n c w', ByRow B w' (.slice a' n c) (xs ++ t.data.toList) → w.grownBy w' v.ownBlock → K (a.put o.dst (.slice a' n c)) w') :
    if Region.wanted o (yielded ops a.tmps) = true then Oper.wp Tryz.prog o a w K Q else E := by
  have hw : Region.wanted o (yielded ops a.tmps) = true := by simp [Region.wanted, hgd]
  rw [if_pos hw]
  obtain ⟨i0, hi, hz0, hz1, hz2⟩ := info_parts1 infoByte
  obtain ⟨v', w', hr, h1, h2, _⟩ := Lib.run_append_own_string (P := Tryz.prog) w B 30 9 o.type 5 i0 Tryz.underlying30 Tryz.underlying9 hi hz0 hz1 hz2 v xs.length (xs.map byV) hv t (by unfold maxLen; omega) hl hB
  have hrow : ByRow B w' v' (xs ++ t.data.toList) := by
    unfold ByRow
    rw [List.length_append, List.map_append]
    exact h1
  obtain ⟨a', c, rfl⟩ := hrow.slice
  unfold Oper.wp execOp
  simp only [ho, resolve, invoke, builtin, Sem.run_bind, Sem.run_pure, Result.andThen_ok, List.map_toArray, List.map_cons, List.map_nil, hs, hx, hr]
  exact h a' _ c w' hrow h2
def BoxIs' (w : World) (g : Nat) (x : Int) : Prop := g < w.heap.size ∧ w.cell? ⟨g, 0, none⟩ = some (.int .i64 x)
theorem numsOne (w : World) (x : Int) (T : TypeId) : BoxIs' (w.alloc (.cells #[.int .i64 x] T)) w.heap.size x := by
  unfold BoxIs'
  exact ⟨by simp, by rw [World.cell?_alloc_at _ _ _ _ (by simp)]; rfl⟩

def putL (size : Nat) (ns : List Int) : List UInt8 := ns.flatMap (fun x => beL x size)
theorem putL_take (size : Nat) (ns : List Int) (k : Nat) (h : k < ns.length) : putL size (ns.take (k + 1)) = putL size (ns.take k) ++ beL ns[k] size := by
  unfold putL
  rw [List.take_succ_eq_append_getElem h, List.flatMap_append]
  simp
theorem putL_len (size : Nat) (ns : List Int) : (putL size ns).length = ns.length * size := by
  induction ns with
  | nil => simp [putL]
  | cons x xs ih =>
    have : putL size (x :: xs) = beL x size ++ putL size xs := by simp [putL]
    rw [this, List.length_append, ih, beL_length, List.length_cons, Nat.add_mul, Nat.one_mul, Nat.add_comm]
/-- numbers lie one behind the other -/
def NumsAt (w : World) (b : Nat) (ns : List Int) : Prop := b < w.heap.size ∧ ∀ i (h : i < ns.length), w.cell? ⟨b, i, none⟩ = some (.int .i64 ns[i])
def ownL (v : Value) : List Nat := v.ownBlock.toList
/-- the row lies where it lay, or in a new block -/
def Late (v0 v : Value) (w : World) : Prop := v.ownBlock = v0.ownBlock ∨ ∀ g, v.ownBlock = some g → w.heap.size ≤ g
theorem Turn.grown' {S : List Nat} {a b c : World} {row : Option Nat} (h : Turn S a b) (hg : b.grownBy c row) (hr : ∀ k, row = some k → k ∈ S ∨ a.heap.size ≤ k) : Turn S a c :=
  ⟨hg.os.trans h.os, hg.tape.trans h.tape, hg.output.trans h.output, Nat.le_trans h.size hg.size, fun k hk hS => (hg.block k (Nat.lt_of_lt_of_le hk h.size) (fun e => (hr k e.symm).elim hS (fun q => by omega))).trans (h.block k hk hS)⟩
theorem Late.mem {v0 v : Value} {w : World} (h : Late v0 v w) : ∀ k, v.ownBlock = some k → k ∈ ownL v0 ∨ w.heap.size ≤ k := by
  intro k hk
  rcases h with e | e
  · left
    unfold ownL
    rw [← e, hk]
    simp
  · exact .inr (e k hk)
theorem Late.trans {v0 v1 v2 : Value} {w w1 : World} (h : Late v0 v1 w) (h2 : Late v1 v2 w1) (hz : w.heap.size ≤ w1.heap.size) : Late v0 v2 w := by
  rcases h2 with e | e
  · rcases h with q | q
    · exact .inl (e.trans q)
    · exact .inr (fun g hg => q g (e ▸ hg))
  · exact .inr (fun g hg => Nat.le_trans hz (e g hg))
theorem ownL_ge {B : Nat} {w : World} {v : Value} {bs : List UInt8} (h : ByRow B w v bs) : ∀ k ∈ ownL v, B ≤ k := by
  intro k hk
  exact h.ge k (by simpa [ownL] using hk)
def RetPut (bs : List UInt8) (B : Nat) (v0 : Value) (w : World) (e : Ending) (w' : World) : Prop := ∃ a n c, e = .returned (.slice a n c) ∧ Hid (ByRow B w' (.slice a n c) bs ∧ Turn (ownL v0) w w' ∧ Late v0 (.slice a n c) w)
set_option maxHeartbeats 3200000 in
theorem putNums_any (B : Nat) (w : World) (a0 : Option Addr) (n0 c0 : Nat) (xs : List UInt8) (size : Nat) (b cap : Nat) (ns : List Int) (hsz : size ≤ 8) (hnl : ns.length ≤ 1000) (hxl : xs.length ≤ 1000000) (hB : B ≤ w.heap.size) (hb : (Value.slice a0 n0 c0).ownBlock ≠ some b) (hv : ByRow B w (.slice a0 n0 c0) xs) (hn : NumsAt w b ns) :
    Calls Tryz.prog 44 #[.slice a0 n0 c0, .int .i64 (size : Int), .slice (some ⟨b, 0, none⟩) ns.length cap] w fun e w' => RetPut (xs ++ putL size ns) B (.slice a0 n0 c0) w e w' := by
  have HN := hide (show ∀ W, Turn (ownL (.slice a0 n0 c0)) w W → ∀ i (h : i < ns.length), W.cell? ⟨b, i, none⟩ = some (.int .i64 ns[i]) from fun W ht i hi => (ht.cell hn.1 (fun hm => hb (by simpa [ownL] using hm))).trans (hn.2 i hi))
  have HV := hide hv
  clear hn hv hb
  go_enter Tryz.func44, Tryz.ntmps44
  go_wp2_with fail
  go_loopw [0, 12] (fun v i wr => ∃ (k : Nat) (a : Option Addr) (n c : Nat) (zs : List UInt8), k ≤ ns.length ∧ i = .int .i64 k ∧ v = .slice a n c ∧ Hid (ByRow B wr (.slice a n c) zs) ∧ Hid (zs = xs ++ putL size (ns.take k)) ∧ Hid (Late (.slice a0 n0 c0) (.slice a n c) w) ∧ Hid (Turn (ownL (.slice a0 n0 c0)) w wr)) (fun _ i _ => ns.length - (intOf i).toNat)
  case atStart => exact ⟨0, _, _, _, xs, Nat.zero_le _, rfl, rfl, HV, hide (by simp [putL]), hide (.inl rfl), Turn.refl _ _⟩
  case round =>
    obtain ⟨k, a, n, c, zs, hk, rfl, rfl, HR, HE, HNr, HB⟩ := hrel
    by_cases hlt : k < ns.length
    · have c1 := unhide HN wr (unhide HB) k hlt
      have HNX := hide (show zs ++ beL ns[k] size = xs ++ putL size (ns.take (k + 1)) by rw [unhide HE, putL_take size ns k hlt, List.append_assoc])
      have HZL := hide (show zs.length ≤ 1010000 by
        rw [unhide HE, List.length_append, putL_len, List.length_take]
        have : min k ns.length * size ≤ 1000 * 8 := Nat.mul_le_mul (by omega) hsz
        omega)
      generalize ns[k] = x at c1 HNX
      have HB0 := hide (unhide HB)
      clear HB HE
      obtain ⟨wo, rfl⟩ : ∃ wo : World, wo = wr := ⟨_, rfl⟩
      go_wp2_with fail
      clear c1
      go_loopw [0, 9] (fun v i wr => ∃ (j : Nat) (a : Option Addr) (n c : Nat) (ys : List UInt8), j ≤ size ∧ i = .int .i64 ((j : Int) - 1) ∧ v = .slice a n c ∧ Hid (ByRow B wr (.slice a n c) ys) ∧ Hid (ys ++ beL x j = zs ++ beL x size) ∧ Hid (Late (.slice a0 n0 c0) (.slice a n c) w) ∧ Hid (Turn (ownL (.slice a0 n0 c0)) w wr)) (fun _ i _ => (intOf i + 1).toNat)
      case atStart => exact ⟨size, _, _, _, zs, Nat.le_refl _, rfl, rfl, HR, rfl, HNr, HB0⟩
      case round =>
        obtain ⟨j, a2, n2, c2, ys, hj, rfl, rfl, HR2, HE2, HN2, HB2⟩ := hrel
        by_cases h0 : j = 0
        · subst h0
          have hz : ys = zs ++ beL x size := by have := unhide HE2; simpa [beL] using this
          have HE3 := hide (hz.trans (unhide HNX))
          clear HE2 hz
          go_wp2_with fail
          go_roundw
          case rel => exact ⟨k + 1, a2, n2, c2, ys, by omega, by go_num, rfl, HR2, HE3, HN2, HB2⟩
          case measure => simp [intOf]; omega
        · obtain ⟨q, rfl⟩ : ∃ q, j = q + 1 := ⟨j - 1, by omega⟩
          have hq8 : q < 8 := by omega
          have e1 : ((q + 1 : Nat) : Int) - 1 = (q : Int) := by omega
          rw [e1]
          have hl := hide (show ys.length + [beB x q].length ≤ 140737488355328 by
            have := congrArg List.length (unhide HE2)
            have h2 := unhide HZL
            simp [beL_length] at this
            simp; omega)
          have HV2 := hide (beB_val x q)
          have h8 : (8 * (q : Int)).toNat = 8 * q := by omega
          have R1 := hide ((unhide HR2).up' (.cells #[.int .u8 (IntKind.u8.wrap (x / 2 ^ (8 * q)))] 5))
          have U1 := hide (show ByRd (wr.alloc (.cells #[.int .u8 (IntKind.u8.wrap (x / 2 ^ (8 * q)))] 5)) (.slice (some ⟨wr.heap.size, 0, none⟩) 1 1) [beB x q] by rw [← unhide HV2]; exact byCell1 wr (beB x q))
          have hBr : B ≤ wr.heap.size := Nat.le_trans hB (unhide HB2).size
          have B1 := hide ((unhide HB2).alloc (.cells #[.int .u8 (IntKind.u8.wrap (x / 2 ^ (8 * q)))] 5))
          have hBr2 := hide (show B ≤ (wr.alloc (.cells #[.int .u8 (IntKind.u8.wrap (x / 2 ^ (8 * q)))] 5)).heap.size by simp; omega)
          clear e1 hBr
          go_wp2_with (first
            | (at_builtin; refine wpList_byAppend rfl _ _ rfl B _ _ ys [beB x q] rfl rfl (unhide R1) (unhide U1) (unhide hl) (unhide hBr2) ?_; intro a3 c3 w3 r3 g3 o3; generalize ys.length + [beB x q].length = n3 at *; have HN3 := hide ((unhide HN2).trans (v2 := .slice a3 n3 c3) (w1 := wr.alloc (.cells #[.int .u8 (IntKind.u8.wrap (x / 2 ^ (8 * q)))] 5)) o3 (unhide B1).size); clear o3; have R3 := hide r3; have B3 := hide ((unhide B1).grown' g3 (fun y hy => (unhide HN2).mem y hy)); clear r3 g3)
            | fail)
          go_roundw
          case rel => exact ⟨q, a3, n3, c3, ys ++ [beB x q], by omega, by go_num, rfl, R3, hide (by rw [List.append_assoc]; exact unhide HE2), HN3, B3⟩
          case measure => simp [intOf]
    · have e : k = ns.length := by omega
      subst e
      have HE' := hide (show zs = xs ++ putL size ns by rw [unhide HE, List.take_of_length_le (Nat.le_refl _)])
      rw [unhide HE'] at HR
      clear HE HE'
      go_wp2_with fail
      go_ret
      exact ⟨a, n, c, rfl, hide ⟨unhide HR, unhide HB, unhide HNr⟩⟩
theorem nums1 {w : World} {g : Nat} {x : Int} (h : BoxIs' w g x) : NumsAt w g [x] := ⟨h.1, fun i hi => by
  obtain rfl : i = 0 := by simpa using hi
  exact h.2⟩
theorem nums2 (w : World) (x y : Int) (T : TypeId) : NumsAt (w.alloc (.cells #[.int .i64 x, .int .i64 y] T)) w.heap.size [x, y] := ⟨by simp, fun i hi => by
  rw [World.cell?_alloc_at _ _ _ _ (by simp)]
  match i, hi with
  | 0, _ => rfl
  | 1, _ => rfl⟩
end Go.Proofs.YtiebfcefmdiajaaGreatDoor
