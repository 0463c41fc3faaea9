/-
  A stream that ends: its first byte is passed over, and again, till nothing is left.
-/
/-
  Each byte of a stream is heard in a frame or passed over.
-/
/-
  Rows of rows of bytes: one that may be appended to, each of its rows one's own.
-/
import Derived.Test.YtlgmmibncoedgaaMerged8
import Derived.Test.YtlgmmibncoedgaaMerged2
import Derived.Test.YtlgmmibncoedgaaMerged3
import Derived.Deep.AppendLies
import Derived.Handy
set_option linter.unusedVariables false
namespace Go.Proofs.Ytlgmmibncoedgaa
open Go.RowKit Go.Maps Go.Deep

def endF : Nat → List UInt8 → List (List UInt8) × Nat
  | 0, _ => ([], 0)
  | n + 1, bs => if bs.length = 0 then ([], 0) else ((walkW (bs.drop 1)).1 ++ (endF n (walkW (bs.drop 1)).2.1).1, 1 + (walkW (bs.drop 1)).2.2 + (endF n (walkW (bs.drop 1)).2.1).2)
def endW (bs : List UInt8) : List (List UInt8) × Nat := endF bs.length bs
theorem endF_same : ∀ (n m : Nat) (bs : List UInt8), bs.length ≤ n → bs.length ≤ m → endF n bs = endF m bs := by
  intro n
  induction n with
  | zero =>
    intro m bs h1 h2
    have e : bs.length = 0 := by omega
    cases m with
    | zero => rfl
    | succ m => simp [endF, e]
  | succ n ih =>
    intro m bs h1 h2
    cases m with
    | zero =>
      have e : bs.length = 0 := by omega
      simp [endF, e]
    | succ m =>
      unfold endF
      by_cases e : bs.length = 0
      · simp only [e, if_true]
      · have hl := (walk_len (bs.drop 1)).1
        rw [List.length_drop] at hl
        simp only [e, if_false]
        rw [ih m _ (by omega) (by omega)]
theorem end_nil {bs : List UInt8} (h : bs.length = 0) : endW bs = ([], 0) := by
  unfold endW
  rw [h]
  rfl
theorem end_step {bs : List UInt8} (h : 1 ≤ bs.length) : endW bs = ((walkW (bs.drop 1)).1 ++ (endW (walkW (bs.drop 1)).2.1).1, 1 + (walkW (bs.drop 1)).2.2 + (endW (walkW (bs.drop 1)).2.1).2) := by
  have hl := (walk_len (bs.drop 1)).1
  rw [List.length_drop] at hl
  unfold endW
  obtain ⟨m, hm⟩ : ∃ m, bs.length = m + 1 := ⟨bs.length - 1, by omega⟩
  rw [hm]
  conv => lhs; unfold endF
  rw [if_neg (by omega), endF_same m (walkW (bs.drop 1)).2.1.length _ (by omega) (Nat.le_refl _)]
/-- so far: cur is left, ns heard, q passed over -/
def ETo (bs cur : List UInt8) (ns : List (List UInt8)) (q : Nat) : Prop := ns.length + q + cur.length ≤ bs.length ∧ endW bs = (ns ++ (endW cur).1, q + (endW cur).2) ∧ ∀ x ∈ ns, x.length ≤ 260
theorem ETo.zero (bs : List UInt8) : ETo bs bs [] 0 := ⟨by simp, by simp, by simp⟩
theorem ETo.step {bs cur : List UInt8} {ns : List (List UInt8)} {q : Nat} (h : ETo bs cur ns q) (hp : 1 ≤ cur.length) : ETo bs (walkW (cur.drop 1)).2.1 (ns ++ (walkW (cur.drop 1)).1) (q + 1 + (walkW (cur.drop 1)).2.2) := by
  obtain ⟨h1, h2, h3⟩ := h
  obtain ⟨hl, hs⟩ := walk_len (cur.drop 1)
  rw [List.length_drop] at hl
  refine ⟨by rw [List.length_append]; omega, ?_, fun x hx => ?_⟩
  · rw [h2, end_step hp]
    simp only [List.append_assoc, Prod.mk.injEq, true_and]
    omega
  · rcases List.mem_append.1 hx with hx | hx
    · exact h3 x hx
    · exact hs x hx
theorem ETo.done {bs cur : List UInt8} {ns : List (List UInt8)} {q : Nat} (h : ETo bs cur ns q) (hp : cur.length = 0) : endW bs = (ns, q) := by
  rw [h.2.1, end_nil hp]
  simp
theorem end_len (bs : List UInt8) : ∀ n, bs.length ≤ n → (endW bs).1.length + (endW bs).2 ≤ bs.length ∧ ∀ x ∈ (endW bs).1, x.length ≤ 260 := by
  intro n
  induction n generalizing bs with
  | zero => intro h; rw [end_nil (by omega)]; simp
  | succ n ih =>
    intro h
    by_cases e : bs.length = 0
    · rw [end_nil e]; simp
    · obtain ⟨hl, hs⟩ := walk_len (bs.drop 1)
      rw [List.length_drop] at hl
      obtain ⟨i1, i2⟩ := ih (walkW (bs.drop 1)).2.1 (by omega)
      rw [end_step (by omega)]
      refine ⟨by simp only [List.length_append]; omega, fun x hx => ?_⟩
      rcases List.mem_append.1 hx with hx | hx
      · exact hs x hx
      · exact i2 x hx
end Go.Proofs.Ytlgmmibncoedgaa

set_option linter.unusedVariables false
namespace Go.Proofs.Ytlgmmibncoedgaa
open Go.RowKit Go.Maps Go.Deep

/-- the bytes that these bodies' frames take -/
def sumB (ls : List (List UInt8)) : Nat := (ls.map fun x => x.length + 5).sum
theorem sumB_nil : sumB [] = 0 := rfl
theorem sumB_cons (x : List UInt8) (ls : List (List UInt8)) : sumB (x :: ls) = x.length + 5 + sumB ls := by simp [sumB]
theorem sumB_append (xs ys : List (List UInt8)) : sumB (xs ++ ys) = sumB xs + sumB ys := by simp [sumB]
theorem out_len {bs : List UInt8} (h : frameOk bs = true) : (frameOut bs).length + 5 = bs.length := by
  unfold frameOut
  rw [if_pos h]
  unfold frameBody
  unfold frameOk at h
  simp only [Bool.and_eq_true, decide_eq_true_eq] at h
  simp only [List.length_take, List.length_drop]
  omega
theorem walk_sums (bs : List UInt8) : ∀ n, bs.length ≤ n → sumB (walkF n bs).1 + (walkF n bs).2.2 + (walkF n bs).2.1.length = bs.length := by
  intro n
  induction n generalizing bs with
  | zero => intro h; simp [walkF, sumB]
  | succ n ih =>
    intro h
    unfold walkF
    cases hw : waitB bs
    · have hp := wait_pos hw
      simp only [Bool.false_eq_true, if_false]
      by_cases hn : nextI bs = 1
      · obtain ⟨k, e1, e2, e3, e4⟩ := next_one hn
        simp only [hn, if_true, e1, Int.toNat_natCast]
        have i1 := ih (bs.drop k) (by simp; omega)
        have i2 := out_len e4
        rw [List.length_drop] at i1
        rw [List.length_take] at i2
        rw [sumB_cons]
        omega
      · simp only [hn, if_false]
        have i1 := ih (bs.drop 1) (by simp; omega)
        rw [List.length_drop] at i1
        omega
    · simp [sumB]
theorem walk_sum (bs : List UInt8) : sumB (walkW bs).1 + (walkW bs).2.2 + (walkW bs).2.1.length = bs.length := walk_sums bs _ (Nat.le_refl _)
theorem end_sum (bs : List UInt8) : ∀ n, bs.length ≤ n → sumB (endW bs).1 + (endW bs).2 = bs.length := by
  intro n
  induction n generalizing bs with
  | zero => intro h; rw [end_nil (by omega), sumB_nil]; omega
  | succ n ih =>
    intro h
    by_cases e : bs.length = 0
    · rw [end_nil e, sumB_nil]; omega
    · have hl := walk_sum (bs.drop 1)
      rw [List.length_drop] at hl
      have i1 := ih (walkW (bs.drop 1)).2.1 (by omega)
      rw [end_step (by omega)]
      simp only [sumB_append]
      omega
end Go.Proofs.Ytlgmmibncoedgaa

set_option linter.unusedVariables false
namespace Go.Proofs.Ytlgmmibncoedgaa
open Go.RowKit Go.Maps Go.Deep

def BvRow (B : Nat) (w : World) (v : Value) (vs : List Value) : Prop := w.ownsRow B 22 1 v vs.length vs
theorem BvRow.nil (B : Nat) (w : World) : BvRow B w (.slice none 0 0) [] := ⟨rfl, .inl ⟨rfl, rfl⟩⟩
theorem BvRow.form {B : Nat} {w : World} {v : Value} {vs : List Value} (h : BvRow B w v vs) : ∃ a c, v = .slice a vs.length c := by
  rcases h.2 with ⟨rfl, h0⟩ | ⟨g, cap, cur, rfl, _⟩
  · rw [h0]; exact ⟨_, _, rfl⟩
  · exact ⟨_, _, rfl⟩
theorem BvRow.ge {B : Nat} {w : World} {v : Value} {vs : List Value} (h : BvRow B w v vs) : ∀ g, v.ownBlock = some g → B ≤ g := by
  intro g hg
  rcases h.2 with ⟨rfl, _⟩ | ⟨g', cap, cur, rfl, hB, _⟩
  · simp [Value.ownBlock] at hg
  · simp [Value.ownBlock] at hg; omega
theorem BvRow.lt {B : Nat} {w : World} {v : Value} {vs : List Value} (h : BvRow B w v vs) : ∀ g, v.ownBlock = some g → g < w.heap.size := by
  intro g hg
  rcases h.2 with ⟨rfl, _⟩ | ⟨g', cap, cur, rfl, hB, hh, _⟩
  · simp [Value.ownBlock] at hg
  · simp [Value.ownBlock] at hg
    subst hg
    exact (Array.getElem?_eq_some_iff.1 hh).1
theorem BvRow.keep {B : Nat} {w w' : World} {v : Value} {vs : List Value} (h : BvRow B w v vs) (hk : ∀ g, v.ownBlock = some g → w'.heap[g]? = w.heap[g]?) : BvRow B w' v vs := by
  rcases h with ⟨hl, h | ⟨g, cap, cur, rfl, hB, hg, hr⟩⟩
  · exact ⟨hl, .inl h⟩
  · exact ⟨hl, .inr ⟨g, cap, cur, rfl, hB, (hk g rfl).trans hg, hr⟩⟩
theorem BvRow.up {B : Nat} {w w' : World} {v : Value} {vs : List Value} (h : BvRow B w v vs) (hb : Below w.heap.size w w') : BvRow B w' v vs := h.keep (fun g hg => hb.block g (h.lt g hg))
/-- its own block holds slices -/
theorem BvRow.typed {B : Nat} {w : World} {v : Value} {vs : List Value} (h : BvRow B w v vs) : ∀ g, v.ownBlock = some g → ∃ cur, w.heap[g]? = some (.cells cur 22) := by
  intro g hg
  rcases h.2 with ⟨rfl, _⟩ | ⟨g', cap, cur, rfl, hB, hh, _⟩
  · simp [Value.ownBlock] at hg
  · simp [Value.ownBlock] at hg
    subst hg
    exact ⟨cur, hh⟩
theorem ByRow.typed {B : Nat} {w : World} {v : Value} {bs : List UInt8} (h : ByRow B w v bs) : ∀ g, v.ownBlock = some g → ∃ cur, w.heap[g]? = some (.cells cur 5) := by
  intro g hg
  rcases h.2 with ⟨rfl, _⟩ | ⟨g', cap, cur, rfl, hB, hh, _⟩
  · simp [Value.ownBlock] at hg
  · simp [Value.ownBlock] at hg
    subst hg
    exact ⟨cur, hh⟩
theorem two_types {w : World} {g : Nat} {c1 c2 : Array Value} (h1 : w.heap[g]? = some (.cells c1 22)) (h2 : w.heap[g]? = some (.cells c2 5)) : False := by
  rw [h1] at h2
  simp at h2
theorem infoBv : (Try.prog.info? 22).map (fun i => (i.zero, i.size, i.bytes)) = some (some (.slice none 0 0), 1, 24) := by kernel_rfl
theorem infoBv_parts {t : TypeId} {z : Value} {s b : Nat} (h : (Try.prog.info? t).map (fun i => (i.zero, i.size, i.bytes)) = some (some z, s, b)) : ∃ i, Try.prog.info? t = some i ∧ i.zero = some z ∧ i.size = s ∧ i.bytes = b := by
  cases hi : Try.prog.info? t with
  | none => rw [hi] at h; cases h
  | some i =>
    rw [hi] at h
    simp only [Option.map_some, Option.some.injEq, Prod.mk.injEq] at h
    exact ⟨i, rfl, h.1, h.2.1, h.2.2⟩
theorem news_bv {w : World} {g : Nat} {x : Value} (c0 : w.cell? ⟨g, 0, none⟩ = some x) : ∀ j u, ([x] : List Value)[j]? = some u → w.cell? ((⟨g, 0, none⟩ : Addr).add j) = some u := by
  intro j u hj
  match j, hj with
  | 0, hj => simp at hj; subst hj; simpa [Addr.add] using c0
/-- one more row -/
theorem wpList_bvAppend {w : World} {ops : Array Oper} {rest : List Oper} {o : Oper} {a : Act} {Q : Exit → Act → World → Prop} (hgd : o.guard = none) (s x : Operand)
    (ho : o.op = .call { callee := .builtin .append, args := #[s, x], argTypes := #[36, 36] }) (B : Nat) (v : Value) (vs : List Value) (ya : Option Addr) (yn yc : Nat) (g : Nat) (hs : a.eval s = v) (hx : a.eval x = .slice (some ⟨g, 0, none⟩) 1 1)
    (hv : BvRow B w v vs) (c0 : w.cell? ⟨g, 0, none⟩ = some (.slice ya yn yc)) (hl : vs.length ≤ 1000000) (hB : B ≤ w.heap.size)
    (h : ∀ g' n c w', BvRow B w' (.slice (some ⟨g', 0, none⟩) n c) (vs ++ [.slice ya yn yc]) → n = vs.length + 1 → w.grownBy w' v.ownBlock → wpList Try.prog ops Q rest (a.put o.dst (.slice (some ⟨g', 0, none⟩) n c)) w') : wpList Try.prog ops Q (o :: rest) a w := by
  obtain ⟨i0, hi, hz0, hz1, hz2⟩ := infoBv_parts infoBv
  refine wpList_append_lies w hgd s x 36 ho B 22 i0 _ 1 24 Try.underlying36 hi hz0 hz1 hz2 rfl (by decide) v vs.length vs hs hv ⟨g, 0, none⟩ 1 1 [.slice ya yn yc] hx rfl (news_bv c0) (by intro u hu; simp at hu; rw [hu]; rfl) (by decide) (by unfold maxLen; omega) (by omega) hB w.heap.size rfl ?_
  intro g' cap w' h2 h3 h4 h5
  refine h g' _ cap w' ?_ rfl h3
  unfold BvRow
  rw [List.length_append]
  exact h2
/-- a row of rows of bytes: its cells, and each of them a row of one's own, the later ones in later blocks -/
structure BsIs (B : Nat) (w : World) (vs : List Value) (ns : List (List UInt8)) : Prop where
  len : vs.length = ns.length
  el : ∀ i (h : i < vs.length) (h' : i < ns.length), ByRow B w vs[i] ns[i]
  inc : ∀ i j (hi : i < vs.length) (hj : j < vs.length), i < j → ∀ k k', vs[i].ownBlock = some k → vs[j].ownBlock = some k' → k < k'
theorem BsIs.nil (B : Nat) (w : World) : BsIs B w [] [] := ⟨rfl, fun i h => by simp at h, fun i j h => by simp at h⟩
/-- all blocks of bytes are as they were -/
def KeepU (w w' : World) : Prop := w.heap.size ≤ w'.heap.size ∧ ∀ (g : Nat) (cur : Array Value), w.heap[g]? = some (Obj.cells cur 5) → w'.heap[g]? = w.heap[g]?
theorem KeepU.refl (w : World) : KeepU w w := ⟨Nat.le_refl _, fun _ _ _ => rfl⟩
theorem KeepU.trans {a b c : World} (h : KeepU a b) (k : KeepU b c) : KeepU a c := ⟨Nat.le_trans h.1 k.1, fun g cur hg => by
  have h1 := h.2 g cur hg
  exact (k.2 g cur (h1.trans hg)).trans h1⟩
theorem KeepU.below {w w' : World} (h : Below w.heap.size w w') : KeepU w w' := ⟨h.size, fun g cur hg => h.block g (Array.getElem?_eq_some_iff.1 hg).1⟩
theorem KeepU.grown {w w' : World} {row : Option Nat} (h : w.grownBy w' row) (hr : ∀ g, row = some g → ∃ cur, w.heap[g]? = some (.cells cur 22)) : KeepU w w' :=
  ⟨h.size, fun g cur hg => h.block g (Array.getElem?_eq_some_iff.1 hg).1 (fun e => by
    obtain ⟨c2, hc⟩ := hr g e.symm
    exact two_types hc hg)⟩
theorem ByRow.keepU {B : Nat} {w w' : World} {v : Value} {bs : List UInt8} (h : ByRow B w v bs) (hk : KeepU w w') : ByRow B w' v bs := h.keep (fun g hg => by
  obtain ⟨cur, hc⟩ := h.typed g hg
  exact hk.2 g cur hc)
theorem BsIs.keepU {B : Nat} {w w' : World} {vs : List Value} {ns : List (List UInt8)} (h : BsIs B w vs ns) (hk : KeepU w w') : BsIs B w' vs ns := ⟨h.len, fun i h1 h2 => (h.el i h1 h2).keepU hk, h.inc⟩
theorem BvRow.turn {B : Nat} {S : List Nat} {w w' : World} {v : Value} {vs : List Value} (h : BvRow B w v vs) (t : Turn S w w') (hS : ∀ k ∈ S, k < B) : BvRow B w' v vs := h.keep (fun g hg => t.block g (h.lt g hg) (fun hm => by have := hS g hm; have := h.ge g hg; omega))
theorem BvRow.mono {B B' : Nat} {w : World} {v : Value} {vs : List Value} (h : BvRow B w v vs) (hB : B' ≤ B) : BvRow B' w v vs := by
  rcases h with ⟨hl, h | ⟨g, cap, cur, rfl, hg, hr⟩⟩
  · exact ⟨hl, .inl h⟩
  · exact ⟨hl, .inr ⟨g, cap, cur, rfl, by omega, hr⟩⟩
theorem BsIs.turn {B : Nat} {S : List Nat} {w w' : World} {vs : List Value} {ns : List (List UInt8)} (h : BsIs B w vs ns) (t : Turn S w w') (hS : ∀ k ∈ S, k < B) : BsIs B w' vs ns := ⟨h.len, fun i h1 h2 => (h.el i h1 h2).turn t (fun g hg hm => by have := hS g hm; have := (h.el i h1 h2).ge g hg; omega), h.inc⟩
theorem BsIs.mono {B B' : Nat} {w : World} {vs : List Value} {ns : List (List UInt8)} (h : BsIs B w vs ns) (hB : B' ≤ B) : BsIs B' w vs ns := ⟨h.len, fun i h1 h2 => (h.el i h1 h2).mono hB, h.inc⟩
/-- one more, made behind all that there was -/
theorem BsIs.snoc {B : Nat} {w w' : World} {vs : List Value} {ns : List (List UInt8)} {x : Value} {bs : List UInt8} (h : BsIs B w vs ns) (hk : KeepU w w') (hB : B ≤ w.heap.size) (hx : ByRow w.heap.size w' x bs) : BsIs B w' (vs ++ [x]) (ns ++ [bs]) := by
  have hl := h.len
  refine ⟨by simp [hl], fun i h1 h2 => ?_, fun i j hi hj hij k k' e1 e2 => ?_⟩
  · by_cases e : i < vs.length
    · have := (h.el i e (by omega)).keepU hk
      rw [List.getElem_append_left e, List.getElem_append_left (by omega)]
      exact this
    · have e' : i = vs.length := by simp at h1; omega
      subst e'
      simp only [hl, List.getElem_append_right (Nat.le_refl _), Nat.sub_self, List.getElem_cons_zero]
      rw [List.getElem_append_right (by omega)]
      simp only [hl, Nat.sub_self, List.getElem_cons_zero]
      exact hx.mono hB
  · have hi' : i < vs.length := by simp at hj; omega
    rw [List.getElem_append_left hi'] at e1
    by_cases e : j < vs.length
    · rw [List.getElem_append_left e] at e2
      exact h.inc i j hi' e hij k k' e1 e2
    · rw [List.getElem_append_right (by omega)] at e2
      have e' : j = vs.length := by simp at hj; omega
      subst e'
      simp only [Nat.sub_self, List.getElem_cons_zero] at e2
      have q1 := (h.el i hi' (by omega)).lt k e1
      have q2 := hx.ge k' e2
      omega
end Go.Proofs.Ytlgmmibncoedgaa
