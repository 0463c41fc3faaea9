/-
  What the rounds of a range over a function keep: all blocks below a number but the listed ones.
-/
/-
  The program's bodies, told one behind the other by an iterator that goes through its listener.
-/
import Derived.Test.YtlgmmibncoedgaaMerged1
import Derived.RangeFuncNested
import Derived.RangeFuncBound
import Derived.RangeFuncCalls
import Derived.RangeFuncLeaves
import Derived.Shelf.Abstract
import Derived.Shelf.RegionOpen
import Derived.OwnWalkIn
import Derived.TacticsInMore
import Derived.LoopNIn
import Derived.LoopIn
import Derived.Test.YtlgmmibncoedgaaMerged5
import Derived.Test.YtlgmmibncoedgaaMerged29
import Derived.Test.YtlgmmibncoedgaaFrameReadI
import Derived.Test.YtlgmmibncoedgaaMerged18
import Derived.WalkKit
set_option linter.unusedVariables false
namespace Go.Proofs.Ytlgmmibncoedgaa
open Go.RowKit Go.Maps Go.Shelf

structure Keep (n₀ : Nat) (S : List Nat) (w w' : World) : Prop where
  size : w.heap.size ≤ w'.heap.size
  block : ∀ k, k < n₀ → k ∉ S → w'.heap[k]? = w.heap[k]?
theorem Keep.refl (n₀ : Nat) (S : List Nat) (w : World) : Keep n₀ S w w := ⟨Nat.le_refl _, fun _ _ _ => rfl⟩
theorem Keep.trans {n₀ : Nat} {S : List Nat} {a b c : World} (h : Keep n₀ S a b) (k : Keep n₀ S b c) : Keep n₀ S a c := ⟨Nat.le_trans h.size k.size, fun i hi hS => (k.block i hi hS).trans (h.block i hi hS)⟩
theorem Keep.of_below {n₀ : Nat} {S : List Nat} {a b : World} (h : Below n₀ a b) : Keep n₀ S a b := ⟨h.size, fun k hk _ => h.block k hk⟩
theorem Keep.of_turn {n₀ : Nat} {S S' : List Nat} {a b : World} (h : Turn S a b) (hn : n₀ ≤ a.heap.size) (hS : ∀ k ∈ S, k ∈ S' ∨ n₀ ≤ k) : Keep n₀ S' a b :=
  ⟨h.size, fun k hk hn' => h.block k (Nat.lt_of_lt_of_le hk hn) (fun hm => (hS k hm).elim hn' (fun e => by omega))⟩
theorem Keep.cell {n₀ : Nat} {S : List Nat} {a b : World} (h : Keep n₀ S a b) {g i : Nat} (hg : g < n₀) (hS : g ∉ S) : b.cell? ⟨g, i, none⟩ = a.cell? ⟨g, i, none⟩ := World.cell?_of_block (w := a) (a := ⟨g, i, none⟩) (h.block g hg hS)
theorem Keep.alloc {n₀ : Nat} {S : List Nat} {a b : World} (h : Keep n₀ S a b) (hn : n₀ ≤ b.heap.size) (o : Obj) : Keep n₀ S a (b.alloc o) := h.trans (Keep.of_below ((Below.refl _ _).alloc hn o))
theorem Keep.setCell {n₀ : Nat} {S : List Nat} {a b : World} (h : Keep n₀ S a b) {g : Nat} (hg : g ∈ S ∨ n₀ ≤ g) (i : Nat) (v : Value) : Keep n₀ S a (b.setCell ⟨g, i, none⟩ v) :=
  h.trans ⟨by simp, fun k hk hS => Below.heap_setCell b ⟨g, i, none⟩ v k (fun e => by subst e; exact hg.elim hS (fun e => by omega))⟩
theorem keepK_t {n₀ : Nat} {S : List Nat} {A B C : World} (h : Keep n₀ S A B) (k : Keep n₀ S B C) : Keep n₀ S A C := h.trans k
theorem keepK_b {w : World} {n₀ : Nat} {S : List Nat} (hn : n₀ ≤ w.heap.size) (W : World) (l : Nat) (o o' : Obj) (hl : w.heap.size ≤ l) (h : W.heap[l]? = some o) (hc : o.isCells = false) (hw : o.isWalk = false) : Keep n₀ S W (W.putObj l o') :=
  ⟨by simp, fun k hk _ => World.putObj_heap_other (fun e => by omega)⟩
end Go.Proofs.Ytlgmmibncoedgaa

set_option linter.unusedVariables false
namespace Go.Proofs.Ytlgmmibncoedgaa
open Go.RowKit Go.Maps Go.Deep Go.Shelf

attribute [local go_sem] Oper.semAt_some

/-- all bytes, and all blocks below n₀, are as they were -/
def KeepG (n₀ : Nat) (w w' : World) : Prop := KeepU w w' ∧ ∀ k, k < n₀ → w'.heap[k]? = w.heap[k]?
theorem KeepG.refl (n₀ : Nat) (w : World) : KeepG n₀ w w := ⟨KeepU.refl w, fun _ _ => rfl⟩
theorem KeepG.trans {n₀ : Nat} {a b c : World} (h : KeepG n₀ a b) (k : KeepG n₀ b c) : KeepG n₀ a c := ⟨h.1.trans k.1, fun g hg => (k.2 g hg).trans (h.2 g hg)⟩
theorem KeepG.below {n₀ : Nat} {w w' : World} (h : Below w.heap.size w w') (hn : n₀ ≤ w.heap.size) : KeepG n₀ w w' := ⟨KeepU.below h, fun g hg => h.block g (by omega)⟩
/-- bytes in a block of bytes, or in one below n₀ -/
def ByU (n₀ : Nat) (w : World) (v : Value) (bs : List UInt8) : Prop := ∃ a c, v = .slice a bs.length c ∧ bs.length ≤ c ∧ (bs = [] ∨ ∃ b off, a = some ⟨b, off, none⟩ ∧ b < w.heap.size ∧ (b < n₀ ∨ ∃ cur, w.heap[b]? = some (Obj.cells cur 5)) ∧ ByAt w b off bs)
theorem ByU.rd {n₀ : Nat} {w : World} {v : Value} {bs : List UInt8} (h : ByU n₀ w v bs) : ByRd w v bs := by
  obtain ⟨a, c, rfl, hc, h⟩ := h
  refine ⟨a, c, rfl, ?_, hc⟩
  rcases h with h | ⟨b, off, rfl, hb, _, h⟩
  · exact .inl h
  · exact .inr ⟨b, off, rfl, hb, h⟩
theorem ByU.of_rd {w : World} {v : Value} {bs : List UInt8} (h : ByRd w v bs) : ByU w.heap.size w v bs := by
  obtain ⟨a, c, rfl, h, hc⟩ := h
  refine ⟨a, c, rfl, hc, ?_⟩
  rcases h with h | ⟨b, off, rfl, hb, h⟩
  · exact .inl h
  · exact .inr ⟨b, off, rfl, hb, .inl hb, h⟩
theorem ByU.keepG {n₀ : Nat} {w w' : World} {v : Value} {bs : List UInt8} (h : ByU n₀ w v bs) (hk : KeepG n₀ w w') : ByU n₀ w' v bs := by
  obtain ⟨a, c, rfl, hc, h⟩ := h
  refine ⟨a, c, rfl, hc, ?_⟩
  rcases h with h | ⟨b, off, rfl, hb, ht, h⟩
  · exact .inl h
  · have e : w'.heap[b]? = w.heap[b]? := by
      rcases ht with ht | ⟨cur, ht⟩
      · exact hk.2 b ht
      · exact hk.1.2 b cur ht
    refine .inr ⟨b, off, rfl, Nat.lt_of_lt_of_le hb hk.1.1, ?_, fun i hi => (World.cell?_of_block (w := w) (a := ⟨b, off + i, none⟩) e).trans (h i hi)⟩
    rcases ht with ht | ⟨cur, ht⟩
    · exact .inl ht
    · exact .inr ⟨cur, e.trans ht⟩
theorem ByU.drop {n₀ : Nat} {w : World} {a : Option Addr} {n c : Nat} {bs : List UInt8} (h : ByU n₀ w (.slice a n c) bs) (m : Nat) (hm : m ≤ bs.length) : ByU n₀ w (.slice (if c = m then a else a.map (fun x => x.add m)) (n - m) (c - m)) (bs.drop m) := by
  obtain ⟨a', c', e, hc, h⟩ := h
  simp only [Value.slice.injEq] at e
  obtain ⟨rfl, rfl, rfl⟩ := e
  refine ⟨_, _, by rw [List.length_drop], by rw [List.length_drop]; omega, ?_⟩
  by_cases e : c = m
  · exact .inl (List.drop_of_length_le (by omega))
  · rw [if_neg e]
    rcases h with h | ⟨b, off, rfl, hb, ht, h⟩
    · subst h; exact .inl (by simp)
    · refine .inr ⟨b, off + m, ?_, hb, ht, fun i hi => ?_⟩
      · by_cases h0 : m = 0
        · subst h0; simp [Addr.add]
        · simp [Addr.add, h0]
      · rw [List.getElem_drop, Nat.add_assoc]
        exact h (m + i) (by simp at hi; omega)
theorem ByU.of_row {B n₀ : Nat} {w : World} {v : Value} {bs : List UInt8} (h : ByRow B w v bs) : ByU n₀ w v bs := by
  obtain ⟨a, c, e, hin, hc⟩ := h.rd
  subst e
  refine ⟨a, c, rfl, hc, ?_⟩
  rcases hin with hin | ⟨b, off, rfl, hb, hin⟩
  · exact .inl hin
  · rcases h with ⟨_, ⟨e, _⟩ | ⟨g, cap, cur, e, hB, hg, _⟩⟩
    · simp at e
    · simp only [Value.slice.injEq, Option.some.injEq, Addr.mk.injEq, and_true] at e
      obtain ⟨⟨rfl, rfl⟩, _⟩ := e
      exact .inr ⟨b, 0, rfl, hb, .inr ⟨cur, hg⟩, hin⟩
/-- the listener's box: what is left, and how many were passed over -/
def Lis (w : World) (Bg : Nat) (a : Option Addr) (n c : Nat) (lost : Int) : Prop := w.heap[Bg]? = some (Obj.cells #[.slice a n c, .int .i64 lost] 76)
theorem Lis.cells {w : World} {Bg : Nat} {a : Option Addr} {n c : Nat} {lost : Int} (h : Lis w Bg a n c lost) : w.cell? ⟨Bg, 0, none⟩ = some (.slice a n c) ∧ w.cell? ⟨Bg, 1, none⟩ = some (.int .i64 lost) := by
  have hb : w.heap[Bg]? = some (Obj.cells #[.slice a n c, .int .i64 lost] 76) := h
  constructor
  · simp [World.cell?, hb]
  · simp [World.cell?, hb]
theorem Lis.lt {w : World} {Bg : Nat} {a : Option Addr} {n c : Nat} {lost : Int} (h : Lis w Bg a n c lost) : Bg < w.heap.size := (Array.getElem?_eq_some_iff.1 h).1
theorem Lis.frozen {w : World} {Bg : Nat} {a : Option Addr} {n c : Nat} {lost : Int} (h : Lis w Bg a n c lost) (i : Nat) : w.frozen? ⟨Bg, i, none⟩ = false := by
  have hb : w.heap[Bg]? = some (Obj.cells #[.slice a n c, .int .i64 lost] 76) := h
  simp [World.frozen?, hb]
theorem Lis.set0 {w : World} {Bg : Nat} {a : Option Addr} {n c : Nat} {lost : Int} (h : Lis w Bg a n c lost) (a' : Option Addr) (n' c' : Nat) : Lis (w.setCell ⟨Bg, 0, none⟩ (.slice a' n' c')) Bg a' n' c' lost := by
  obtain ⟨hlt, hk⟩ := Array.getElem?_eq_some_iff.1 h
  show (w.heap.modify Bg _)[Bg]? = _
  rw [Array.getElem?_eq_getElem (by rw [Array.size_modify]; exact hlt), Array.getElem_modify_self, hk]
  rfl
theorem Lis.set1 {w : World} {Bg : Nat} {a : Option Addr} {n c : Nat} {lost : Int} (h : Lis w Bg a n c lost) (l' : Int) : Lis (w.setCell ⟨Bg, 1, none⟩ (.int .i64 l')) Bg a n c l' := by
  obtain ⟨hlt, hk⟩ := Array.getElem?_eq_some_iff.1 h
  show (w.heap.modify Bg _)[Bg]? = _
  rw [Array.getElem?_eq_getElem (by rw [Array.size_modify]; exact hlt), Array.getElem_modify_self, hk]
  rfl
theorem Lis.up {w w' : World} {Bg : Nat} {a : Option Addr} {n c : Nat} {lost : Int} (h : Lis w Bg a n c lost) (hb : Below w.heap.size w w') : Lis w' Bg a n c lost := (hb.block _ h.lt).trans h
theorem Lis.keepU {w : World} {Bg : Nat} {a : Option Addr} {n c : Nat} {lost : Int} (h : Lis w Bg a n c lost) (i : Nat) (v : Value) : KeepU w (w.setCell ⟨Bg, i, none⟩ v) :=
  ⟨by simp, fun g cur hg => Below.heap_setCell w ⟨Bg, i, none⟩ v g (fun e => by
    have e' : g = Bg := e
    subst e'
    have hb : w.heap[g]? = some (Obj.cells #[.slice a n c, .int .i64 lost] 76) := h
    rw [hb] at hg
    simp at hg)⟩
theorem Lis.keepG {w : World} {Bg : Nat} {a : Option Addr} {n c : Nat} {lost : Int} (h : Lis w Bg a n c lost) {n₀ : Nat} (hn : n₀ ≤ Bg) (i : Nat) (v : Value) : KeepG n₀ w (w.setCell ⟨Bg, i, none⟩ v) :=
  ⟨h.keepU i v, fun k hk => Below.heap_setCell w ⟨Bg, i, none⟩ v k (by simp; omega)⟩
set_option maxHeartbeats 1600000 in
theorem drop_any (w : World) (Bg : Nat) (a : Option Addr) (n c : Nat) (lost : Int) (m : Nat) (hm : m ≤ n) (hn : n ≤ c) (hc : n ≤ 1000000) (h : Lis w Bg a n c lost) :
    Calls Try.prog 73 #[.pointer (some ⟨Bg, 0, none⟩), .int .i64 (m : Int)] w fun e w' => e = .returned (.tuple #[]) ∧ w' = w.setCell ⟨Bg, 0, none⟩ (.slice (if c = m then a else a.map (fun x => x.add m)) (n - m) (c - m)) := by
  obtain ⟨c0, c1⟩ := h.cells
  have f0 := h.frozen 0
  have q1 : (m : Int) ≤ (n : Int) := by omega
  have q2 : (m : Int) ≤ (c : Int) := by omega
  clear h
  go_enter Try.func73, Try.ntmps73
  go_wp2_with fail
  all_goals
    go_end0
    exact ⟨rfl, by first | rfl | simp_all⟩
set_option maxHeartbeats 1600000 in
theorem passOver_any (w : World) (Bg : Nat) (a : Option Addr) (n c : Nat) (lost : Int) (hm : 1 ≤ n) (hn : n ≤ c) (hc : n ≤ 1000000) (hl : 0 ≤ lost) (hl2 : lost < 9223372036854775807) (h : Lis w Bg a n c lost) :
    Calls Try.prog 74 #[.pointer (some ⟨Bg, 0, none⟩)] w fun e w' => e = .returned (.tuple #[]) ∧ w' = (w.setCell ⟨Bg, 0, none⟩ (.slice (if c = 1 then a else a.map (fun x => x.add 1)) (n - 1) (c - 1))).setCell ⟨Bg, 1, none⟩ (.int .i64 (lost + 1)) := by
  have HD := hide (drop_any w Bg a n c lost 1 hm hn hc h)
  have h1 := h.set0 (if c = 1 then a else a.map (fun x => x.add 1)) (n - 1) (c - 1)
  obtain ⟨d0, d1⟩ := h1.cells
  have f1 := h1.frozen 1
  clear h h1
  generalize w.setCell ⟨Bg, 0, none⟩ (.slice (if c = 1 then a else a.map (fun x => x.add 1)) (n - 1) (c - 1)) = W at *
  go_enter Try.func74, Try.ntmps74
  go_wp2_with fail
  refine (unhide HD).mono ?_
  rintro e w1 ⟨rfl, hw⟩
  rw [hw]
  clear hw w1
  go_wp2_with fail
  go_end0
  exact ⟨rfl, rfl⟩
end Go.Proofs.Ytlgmmibncoedgaa
