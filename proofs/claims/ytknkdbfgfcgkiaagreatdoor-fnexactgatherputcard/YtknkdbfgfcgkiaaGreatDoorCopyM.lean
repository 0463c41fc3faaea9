/-
  A gatherer copied by the specification: what is there while the copy is being made.
-/
import Derived.Test.YtknkdbfgfcgkiaaGreatDoorMerged25
import Derived.Test.YtknkdbfgfcgkiaaGreatDoorMerged10
import Derived.Test.YtknkdbfgfcgkiaaGreatDoorMerged11
import Derived.Test.YtknkdbfgfcgkiaaGreatDoorWinPutS
set_option linter.unusedVariables false
namespace Go.Proofs.YtknkdbfgfcgkiaaGreatDoor
open Go.RowKit Go.Maps Go.Deep

theorem WiRow.apartIt {B B' : Nat} {w : World} {v u : Value} {vs : List Value} {xs : List (Int × Value)} (h : WiRow B w v vs) (h' : ItRow B' w u xs) : ∀ k, u.ownBlock = some k → v.ownBlock ≠ some k := by
  intro k hk hv
  rcases h.2 with ⟨rfl, _⟩ | ⟨g, cap, cur, rfl, hB, hg, _⟩
  · simp [Value.ownBlock] at hv
  · rcases h'.2 with ⟨rfl, _⟩ | ⟨g', cap', cur', rfl, hB', hg', _⟩
    · simp [Value.ownBlock] at hk
    · simp [Value.ownBlock] at hk hv
      subst hk hv
      rw [hg] at hg'
      simp at hg'
theorem WiRow.apartMk {B B' : Nat} {w : World} {v u : Value} {vs : List Value} {ms : List MarkV} (h : WiRow B w v vs) (h' : MkRow B' w u ms) : ∀ k, u.ownBlock = some k → v.ownBlock ≠ some k := by
  intro k hk hv
  rcases h.2 with ⟨rfl, _⟩ | ⟨g, cap, cur, rfl, hB, hg, _⟩
  · simp [Value.ownBlock] at hv
  · rcases h'.2 with ⟨rfl, _⟩ | ⟨g', cap', cur', rfl, hB', hg', _⟩
    · simp [Value.ownBlock] at hk
    · simp [Value.ownBlock] at hk hv
      subst hk hv
      rw [hg] at hg'
      simp at hg'
theorem WiRow.apartTx {B B' : Nat} {w : World} {v u : Value} {vs : List Value} {ts : List ByteArray} (h : WiRow B w v vs) (h' : TxRow B' w u ts) : ∀ k, u.ownBlock = some k → v.ownBlock ≠ some k := by
  intro k hk hv
  rcases h.2 with ⟨rfl, _⟩ | ⟨g, cap, cur, rfl, hB, hg, _⟩
  · simp [Value.ownBlock] at hv
  · rcases h'.2 with ⟨rfl, _⟩ | ⟨g', cap', cur', rfl, hB', hg', _⟩
    · simp [Value.ownBlock] at hk
    · simp [Value.ownBlock] at hk hv
      subst hk hv
      rw [hg] at hg'
      simp at hg'
/-- items in rows, to be read -/
def ItGood (B : Nat) (w : World) (v : Value) (ns : List ItemV) : Prop := ∃ xs, ItRow B w v xs ∧ ItsAre B w xs ns
theorem ItGood.up {B : Nat} {w w' : World} {v : Value} {ns : List ItemV} (h : ItGood B w v ns) (hb : Below w.heap.size w w') : ItGood B w' v ns := by
  obtain ⟨xs, h1, h2⟩ := h
  exact ⟨xs, h1.up hb, h2.up hb⟩
theorem ItGood.rd {B : Nat} {w : World} {v : Value} {ns : List ItemV} (h : ItGood B w v ns) : ItemSRd w v ns := by
  obtain ⟨xs, h1, h2⟩ := h
  exact h1.rd h2
theorem ItGood.mono {B B' : Nat} {w : World} {v : Value} {ns : List ItemV} (h : ItGood B w v ns) (hB : B' ≤ B) : ItGood B' w v ns := by
  obtain ⟨xs, h1, h2⟩ := h
  exact ⟨xs, h1.mono hB, h2.mono hB⟩
/-- writes that keep the blocks that are no row of windows -/
theorem ItGood.off {B B' : Nat} {S : List Nat} {w w' : World} {v u : Value} {ns : List ItemV} {vs : List Value} (h : ItGood B w v ns) (hr : WiRow B' w u vs) (t : Turn S w w') (hS : ∀ k ∈ S, u.ownBlock = some k ∨ k < B) : ItGood B w' v ns := by
  obtain ⟨xs, h1, h2⟩ := h
  refine ⟨xs, h1.keep (fun g hg => t.block g (h1.lt g hg) (fun hm => ?_)), h2.1, fun i hi hi' => ⟨(h2.2 i hi hi').1, (h2.2 i hi hi').2.keep (fun g hg => t.block g ((h2.2 i hi hi').2.lt g hg) (fun hm => ?_))⟩⟩
  · rcases hS g hm with e | e
    · exact hr.apartIt h1 g hg e
    · have := h1.ge g hg; omega
  · rcases hS g hm with e | e
    · exact hr.apartMk (h2.2 i hi hi').2 g hg e
    · have := (h2.2 i hi hi').2.ge g hg; omega
/-- the cells of three values that are nil -/
def nil3 : List Value := [.slice none 0 0, .slice none 0 0, .slice none 0 0]
/-- what is there while the first two parts are copied: la: the block of the empty list of texts; gd: the copy's block; u0, u2: what was copied -/
structure CS (w : World) (A : List Value) (N : Nat) (ins : List ByteArray) (shown : List MarkV) (la gd : Option Nat) (u0 u2 : Option Value) (W : World) : Prop where
  arg : BoxF W w.heap.size A
  res : BoxF W (w.heap.size + 1) nil3
  bel : Below w.heap.size w W
  sz : N ≤ W.heap.size
  lo : w.heap.size + 2 ≤ N
  lit : ∀ l, la = some l → TxRow N W (.slice (some ⟨l, 0, none⟩) 0 0) []
  tx : ∀ v, u0 = some v → TxRow N W v ins
  mr : ∀ v, u2 = some v → MkRow N W v shown
  box : ∀ d, gd = some d → N ≤ d ∧ BoxF W d nil3
  ld : ∀ l d, la = some l → gd = some d → l ≠ d
  lm : ∀ l v, la = some l → u2 = some v → v.ownBlock ≠ some l
  dt : ∀ d v, gd = some d → u0 = some v → v.ownBlock ≠ some d
  dm : ∀ d v, gd = some d → u2 = some v → v.ownBlock ≠ some d
theorem CS.ups {w : World} {A : List Value} {N : Nat} {ins : List ByteArray} {shown : List MarkV} {la gd : Option Nat} {u0 u2 : Option Value} {W W' : World} (h : CS w A N ins shown la gd u0 u2 W) (b : Below W.heap.size W W') : CS w A N ins shown la gd u0 u2 W' :=
  ⟨h.arg.up b, h.res.up b, h.bel.trans (b.mono h.bel.size), Nat.le_trans h.sz b.size, h.lo, fun l e => (h.lit l e).up b, fun v e => (h.tx v e).up b, fun v e => (h.mr v e).up b, fun d e => ⟨(h.box d e).1, (h.box d e).2.up b⟩, h.ld, h.lm, h.dt, h.dm⟩
theorem CS.newLit {w : World} {A : List Value} {N : Nat} {ins : List ByteArray} {shown : List MarkV} {gd : Option Nat} {u2 : Option Value} {W : World} (h : CS w A N ins shown none gd none u2 W) : CS w A N ins shown (some W.heap.size) gd none u2 (W.alloc (.cells #[] 9)) := by
  have b := (Below.refl W.heap.size W).alloc (Nat.le_refl _) (.cells #[] 9)
  have h' := h.ups b
  refine ⟨h'.arg, h'.res, h'.bel, h'.sz, h.lo, fun l e => ?_, (fun v e => by cases e), h'.mr, h'.box, fun l d e1 e2 => ?_, fun l v e1 e2 e3 => ?_, (fun d v e1 e2 => by cases e2), h.dm⟩
  · cases e
    exact txLit W N h.sz
  · cases e1
    have := (h.box d e2).2.1.1
    omega
  · cases e1
    have := (h.mr v e2).lt _ e3
    omega
theorem CS.newBox {w : World} {A : List Value} {N : Nat} {ins : List ByteArray} {shown : List MarkV} {la : Option Nat} {u0 u2 : Option Value} {W : World} (h : CS w A N ins shown la none u0 u2 W) : CS w A N ins shown la (some W.heap.size) u0 u2 (W.alloc (.cells #[.slice none 0 0, .slice none 0 0, .slice none 0 0] 36)) := by
  have b := (Below.refl W.heap.size W).alloc (Nat.le_refl _) (.cells #[.slice none 0 0, .slice none 0 0, .slice none 0 0] 36)
  have h' := h.ups b
  refine ⟨h'.arg, h'.res, h'.bel, h'.sz, h.lo, h'.lit, h'.tx, h'.mr, fun d e => ?_, fun l d e1 e2 e3 => ?_, h.lm, fun d v e1 e2 e3 => ?_, fun d v e1 e2 e3 => ?_⟩
  · cases e
    exact ⟨h.sz, boxF_new W nil3 36⟩
  · cases e2
    have := (h.lit l e1).lt l rfl
    omega
  · cases e1
    have := (h.tx v e2).lt _ e3
    omega
  · cases e1
    have := (h.mr v e2).lt _ e3
    omega
theorem CS.marked {w : World} {A : List Value} {N : Nat} {ins : List ByteArray} {shown : List MarkV} {la gd : Option Nat} {u0 : Option Value} {W W' : World} {u : Value} (h : CS w A N ins shown la gd u0 none W) (b : Below W.heap.size W W') (hr : MkRow W.heap.size W' u shown) : CS w A N ins shown la gd u0 (some u) W' := by
  have h' := h.ups b
  refine ⟨h'.arg, h'.res, h'.bel, h'.sz, h.lo, h'.lit, h'.tx, fun v e => ?_, h'.box, h.ld, fun l v e1 e2 e3 => ?_, h.dt, fun d v e1 e2 e3 => ?_⟩
  · cases e
    exact hr.mono h.sz
  · cases e2
    have := (h.lit l e1).lt l rfl
    have := hr.ge l e3
    omega
  · cases e2
    have := (h.box d e1).2.1.1
    have := hr.ge d e3
    omega
theorem CS.texted {w : World} {A : List Value} {N : Nat} {ins : List ByteArray} {shown : List MarkV} {l : Nat} {gd : Option Nat} {u2 : Option Value} {W W' : World} {g n c : Nat} (h : CS w A N ins shown (some l) gd none u2 W) (hr : TxRow N W' (.slice (some ⟨g, 0, none⟩) n c) ins) (hg : W.grownBy W' (some l)) (hl : l = g ∨ W.heap.size ≤ g) : CS w A N ins shown none gd (some (.slice (some ⟨g, 0, none⟩) n c)) u2 W' := by
  have t : Turn [l] W W' := Turn.of_grown hg (fun k hk => .inl (by simp at hk; simp [hk]))
  have hln : N ≤ l := (h.lit l rfl).ge l rfl
  refine ⟨h.arg.turn t (by simp; have := h.lo; omega), h.res.turn t (by simp; have := h.lo; omega), h.bel.trans (t.below h.bel.size (fun k hk => by simp at hk; have := h.lo; omega)), Nat.le_trans h.sz t.size, h.lo, (fun l e => by cases e), fun v e => ?_, fun v e => ?_, fun d e => ?_, (fun l d e => by cases e), (fun l v e => by cases e), fun d v e1 e2 e3 => ?_, h.dm⟩
  · cases e
    exact hr
  · exact (h.mr v e).keep (fun k hk => t.block k ((h.mr v e).lt k hk) (fun hm => by simp at hm; subst hm; exact h.lm k v rfl e hk))
  · exact ⟨(h.box d e).1, (h.box d e).2.turn t (by have := h.ld l d rfl e; simp; omega)⟩
  · cases e2
    simp only [Value.ownBlock, Option.some.injEq] at e3
    have h1 := h.ld l d rfl e1
    have h2 := (h.box d e1).2.1.1
    omega
set_option maxHeartbeats 1600000 in
theorem l14Marks_nil (a : Option Addr) (c : Nat) (w : World) : Calls Tryz.prog 28 #[.slice a 0 c] w fun e w' => ∃ u, e = .returned u ∧ Hid (MkRow w.heap.size w' u []) ∧ Below w.heap.size w w' := by
  have R0 := hide (mkLit0 w w.heap.size (Nat.le_refl _))
  have b := (Below.refl w.heap.size w).alloc (Nat.le_refl _) (.cells #[] 112)
  go_enter Tryz.func28, Tryz.ntmps28
  go_wp2_with (first
    | (at_builtin; refine wpList_mksAppend0 rfl _ _ rfl w.heap.size a c rfl rfl ?_)
    | fail)
  go_ret
  exact ⟨_, rfl, R0, b⟩
theorem l14Marks_all (ms : List MarkV) (v : Value) (w : World) (hl : ms.length ≤ 1000000) (h : MarkSRd w v ms) :
    Calls Tryz.prog 28 #[v] w fun e w' => ∃ u, e = .returned u ∧ Hid (MkRow w.heap.size w' u ms) ∧ Below w.heap.size w w' := by
  by_cases h0 : ms = []
  · subst h0
    obtain ⟨a, c, rfl, -⟩ := h
    exact l14Marks_nil a c w
  · exact l14Marks_any ms v w h0 hl h
end Go.Proofs.YtknkdbfgfcgkiaaGreatDoor
