/-
  The specification's draw of a window. (Made by wip/mkdrawwin.py.)
-/
/-
  What stands between the rounds of the law on windows: a window, and what was taken, whose stamps lie with the feeds.
-/
import Derived.Test.YtlbhandkpnjgmaaWinQ
import Derived.Deep.RegionHeld3
import Derived.Deep.DeepCutAuto
import Derived.Deep.CutBlock
import Derived.Test.YtlbhandkpnjgmaaKeepM
import Derived.Test.YtlbhandkpnjgmaaWinPutS
import Derived.Test.YtlbhandkpnjgmaaFeedRows
set_option linter.unusedVariables false
namespace Go.Proofs.Ytlbhandkpnjgmaa
open Go.RowKit Go.Maps Go.Deep

def WinFit (m : Nat) (ns : List ItemV) : Prop := ns.length ≤ m ∧ ∀ x ∈ ns, (0 ≤ x.a0 ∧ x.a0 ≤ 10000) ∧ Sm 40 x.a1
theorem WinFit.small {m : Nat} {ns : List ItemV} (h : WinFit m ns) (hm : m ≤ 1000) : SmallItemS ns := ⟨by have := h.1; omega, fun x hx => by
  obtain ⟨h1, h2⟩ := h.2 x hx
  exact ⟨by omega, h2.small (by omega)⟩⟩
theorem WinFit.mono {m m' : Nat} {ns : List ItemV} (h : WinFit m ns) (hm : m ≤ m') : WinFit m' ns := ⟨by have := h.1; omega, h.2⟩
theorem put_fit {ns : List ItemV} {it : ItemV} (h : WinFit 4 ns) (hi : (0 ≤ it.a0 ∧ it.a0 ≤ 10000) ∧ Sm 40 it.a1) : WinFit 4 (putV ns it) := by
  have hnil : WinFit 4 [] := ⟨by simp, by simp⟩
  unfold putV
  split
  · split
    · exact hnil
    · split
      · unfold putN
        split
        · refine ⟨by simp; omega, fun x hx => ?_⟩
          rcases List.mem_append.1 hx with hx | hx
          · exact h.2 x hx
          · simp at hx; rw [hx]; exact hi
        · refine ⟨by have := h.1; simp; omega, fun x hx => ?_⟩
          rcases List.mem_append.1 hx with hx | hx
          · exact h.2 x (List.mem_of_mem_drop hx)
          · simp at hx; rw [hx]; exact hi
      · exact h
  · exact hnil
def OffW (B : Nat) (v : Value) (k : Nat) : Prop := B ≤ k ∧ v.ownBlock ≠ some k
/-- a window being drawn -/
structure WinMid (base g N B : Nat) (w : World) (vo : Value) (wr : World) (ns : List ItemV) : Prop where
  out : ∃ xs, ItRow B wr vo xs ∧ ItsQ (OffW B vo) wr xs ns
  rd : Rdy base g N w wr
theorem WinMid.form {base g N B : Nat} {w : World} {vo : Value} {wr : World} {ns : List ItemV} (h : WinMid base g N B w vo wr ns) : ∃ a c, vo = .slice a ns.length c := by
  obtain ⟨xs, h1, h2⟩ := h.out
  obtain ⟨a, c, e⟩ := h1.slice
  exact ⟨a, c, by rw [e, h2.1]⟩
theorem WinMid.rds {base g N B : Nat} {w : World} {vo : Value} {wr : World} {ns : List ItemV} (h : WinMid base g N B w vo wr ns) : ItemSRd wr vo ns := by
  obtain ⟨xs, h1, h2⟩ := h.out
  exact h1.rdQ h2
theorem WinMid.step {base g N N' B : Nat} {w : World} {vo : Value} {wr W : World} {ns : List ItemV} (h : WinMid base g N B w vo wr ns) (hg : g < B) (t : Turn [g] wr W) (hr : Rdy base g N' w W) : WinMid base g N' B w vo W ns := by
  obtain ⟨xs, h1, h2⟩ := h.out
  exact ⟨⟨xs, h1.keep (fun y hy => t.block y (h1.lt y hy) (by have := h1.ge y hy; simp; omega)), h2.turn t (fun k hk hp => by have := hp.1; simp at hk; omega)⟩, hr⟩
theorem StoryIs.at {B : Nat} {w : World} {a : Option Addr} {n c : Nat} {vs : List Value} (h : StoryIs B w (.slice a n c) vs) (k : Nat) (hk : k < vs.length) : ∃ gs ga ca ts, a = some ⟨gs, 0, none⟩ ∧ B ≤ gs ∧ gs < w.heap.size ∧ w.cell? ⟨gs, k, none⟩ = some (.slice (some ⟨ga, 0, none⟩) 4 ca) ∧ B ≤ ga ∧ ga < w.heap.size ∧ Four ts ∧ ∀ i (hi : i < ts.length), w.cell? ⟨ga, i, none⟩ = some (.int .i64 ts[i]) := by
  have hh : w.ownsRow B 43 1 (.slice a n c) vs.length vs := h.row
  rcases h.row.2 with ⟨e, h00⟩ | ⟨g, cap, cur, e, hB, hg, _⟩
  · omega
  · simp only [Value.slice.injEq] at e
    obtain ⟨rfl, rfl, rfl⟩ := e
    obtain ⟨ts, h1, h2⟩ := h.el vs[k] (List.getElem_mem hk)
    obtain ⟨a1, c1, e1⟩ := h1.form
    rw [e1] at h1
    obtain ⟨ga, rfl, _, hga, hgl, hc⟩ := h1.cells (by have := h2.1; omega)
    refine ⟨g, ga, c1, ts, rfl, hB, (Array.getElem?_eq_some_iff.1 hg).1, ?_, hga, hgl, h2, fun i hi => (hc i hi).1⟩
    rw [hh.cellAt _ (by omega), List.getElem?_eq_getElem hk, e1, h2.1]
/-- one more item -/
theorem wpList_itAppend {w : World} {ops : Array Oper} {rest : List Oper} {o : Oper} {a : Act} {Q : Exit → Act → World → Prop} (hgd : o.guard = none) (s x : Operand)
    (ho : o.op = .call { callee := .builtin .append, args := #[s, x], argTypes := #[27, 27] }) (B : Nat) (v : Value) (ns : List (Int × Value)) (z : Int) (ya : Option Addr) (yn yc : Nat) (g : Nat) (hs : a.eval s = v) (hx : a.eval x = .slice (some ⟨g, 0, none⟩) 1 1)
    (hv : ItRow B w v ns) (c0 : w.cell? ⟨g, 0, none⟩ = some (.int .i64 z)) (c1 : w.cell? ⟨g, 1, none⟩ = some (.slice ya yn yc)) (hl : ns.length ≤ 1000000) (hB : B ≤ w.heap.size)
    (h : ∀ g' n c w', ItRow B w' (.slice (some ⟨g', 0, none⟩) n c) (ns ++ [(z, .slice ya yn yc)]) → w.grownBy w' v.ownBlock → (v.ownBlock = some g' ∨ g' = w.heap.size) → wpList Try.prog ops Q rest (a.put o.dst (.slice (some ⟨g', 0, none⟩) n c)) w') : wpList Try.prog ops Q (o :: rest) a w := by
  obtain ⟨i0, hi, hz0, hz1, hz2⟩ := info_parts1 infoItem
  refine wpList_append_lies w hgd s x 27 ho B 30 i0 _ 2 32 Try.underlying27 hi hz0 hz1 hz2 rfl (by decide) v ns.length (itCells ns) hs hv ⟨g, 0, none⟩ 1 1 [.int .i64 z, .slice ya yn yc] hx rfl (news_item c0 c1) (by intro u hu; simp at hu; rcases hu with rfl | rfl <;> rfl) (by decide) (by unfold maxLen; omega) (by omega) hB w.heap.size rfl ?_
  intro g' cap w' h2 h3 h4 h5
  refine h g' _ cap w' ?_ h3 h4
  unfold ItRow
  rw [itCells_snoc, List.length_append]
  exact h2
theorem its_grow {B : Nat} {W w8 : World} {v : Value} {g n c : Nat} {xs : List (Int × Value)} {ns : List ItemV} (Q : ItsQ (OffW B v) W xs ns) (gr : W.grownBy w8 v.ownBlock) (hg : v.ownBlock = some g ∨ g = W.heap.size) : ItsQ (OffW B (.slice (some ⟨g, 0, none⟩) n c)) w8 xs ns := by
  have t8 : Turn v.ownBlock.toList W w8 := Turn.of_grown gr (fun k hk => .inl (by rw [hk]; simp))
  have h1 : ItsQ (fun k => OffW B v k ∧ OffW B (.slice (some ⟨g, 0, none⟩) n c) k) W xs ns := Q.mono (fun k hk hp => ⟨hp, hp.1, fun e => by
    simp [Value.ownBlock] at e
    rcases hg with hg | hg
    · exact hp.2 (by rw [← e]; exact hg)
    · omega⟩)
  exact (h1.turn t8 (fun k hk hp => hp.1.2 (by simpa using hk))).mono (fun k _ hp => hp.2)
theorem pairW {w : World} {g : Nat} {a b : Value} (h : BoxF w g [a, b]) : (w.cell? ⟨g, 0, none⟩ = some a ∧ w.cell? ⟨g, 1, none⟩ = some b) ∧ (w.frozen? ⟨g, 0, none⟩ = false ∧ w.frozen? ⟨g, 1, none⟩ = false) := ⟨⟨h.1.at 0 _ rfl, h.1.at 1 _ rfl⟩, h.2 0 (by simp), h.2 1 (by simp)⟩
def RetWin34 (base g N m : Nat) (w : World) (e : Ending) (w' : World) : Prop := ∃ a n c ns, e = .returned (.slice a n c) ∧ Hid (WinMid base g N w.heap.size w (.slice a n c) w' ns) ∧ Hid (WinFit m ns)
end Go.Proofs.Ytlbhandkpnjgmaa

set_option linter.unusedVariables false
namespace Go.Proofs.Ytlbhandkpnjgmaa
open Go.RowKit Go.Maps Go.Deep

def TakAre (w : World) (xs : List (Int × Value)) (ts : List ItemV) : Prop := xs.length = ts.length ∧ ∀ i (h : i < xs.length) (h' : i < ts.length), xs[i].1 = ts[i].a0 ∧ MarkSRd w xs[i].2 ts[i].a1
theorem TakAre.up {w w' : World} {xs : List (Int × Value)} {ts : List ItemV} (h : TakAre w xs ts) (b : Below w.heap.size w w') : TakAre w' xs ts := ⟨h.1, fun i h1 h2 => ⟨(h.2 i h1 h2).1, (h.2 i h1 h2).2.up b⟩⟩
theorem TakAre.snoc {w : World} {xs : List (Int × Value)} {ts : List ItemV} {z : Int} {u : Value} {ms : List MarkV} (h : TakAre w xs ts) (hu : MarkSRd w u ms) : TakAre w (xs ++ [(z, u)]) (ts ++ [⟨z, ms⟩]) := by
  have hl := h.1
  refine ⟨by simp [hl], fun i h1 h2 => ?_⟩
  by_cases e : i < xs.length
  · rw [List.getElem_append_left e, List.getElem_append_left (by omega)]
    exact h.2 i e (by omega)
  · have e' : i = xs.length := by simp at h1; omega
    subst e'
    rw [List.getElem_append_right (Nat.le_refl _), List.getElem_append_right (by omega)]
    simp only [hl, Nat.sub_self, List.getElem_cons_zero, true_and]
    exact hu
theorem ItRow.rdT {B : Nat} {w : World} {v : Value} {xs : List (Int × Value)} {ns : List ItemV} (h : ItRow B w v xs) (hx : TakAre w xs ns) : ItemSRd w v ns := by
  have hh : w.ownsRow B 30 2 v xs.length (itCells xs) := h
  rcases h with ⟨_, ⟨rfl, h0⟩ | ⟨g, cap, cur, rfl, hB, hg, hnc, _⟩⟩
  · have e : ns = [] := List.eq_nil_of_length_eq_zero (by rw [← hx.1]; exact h0)
    subst e
    exact ⟨none, 0, rfl, .inl rfl⟩
  · refine ⟨some ⟨g, 0, none⟩, cap, by rw [hx.1], .inr ⟨g, 0, rfl, (Array.getElem?_eq_some_iff.1 hg).1, fun i hi => ?_⟩⟩
    have hi' : i < xs.length := by rw [hx.1]; exact hi
    obtain ⟨e0, e1⟩ := itCells_get xs i hi'
    obtain ⟨f0, f1⟩ := hx.2 i hi' hi
    refine ⟨?_, xs[i].2, ?_, f1⟩
    · rw [Nat.zero_add, hh.cellAt _ (by omega), ← f0]; exact e0
    · rw [Nat.zero_add, hh.cellAt _ (by omega)]; exact e1
structure KeepMid (w1 : World) (wv tv : Value) (ns ts : List ItemV) (i : Nat) (wr : World) : Prop where
  kept : Kept ns ts
  len : ts.length ≤ i
  smN : SmallItemS ns
  smT : ∀ x ∈ ts, SmallItem x
  win : ∃ S, ItemSFull S wr wv ns ∧ ∀ k ∈ S, w1.heap.size ≤ k ∧ tv.ownBlock ≠ some k
  row : ∃ xs, ItRow w1.heap.size wr tv xs ∧ TakAre w1 xs ts
  bel : Below w1.heap.size w1 wr
theorem KeepMid.start (w1 : World) : KeepMid w1 (.slice none 0 0) (.slice none 0 0) [] [] 0 w1 := ⟨kept_nil, Nat.le_refl _, ⟨by simp, by simp⟩, by simp, ⟨[], full_none w1, by simp⟩, ⟨[], ItRow.nil _ _, rfl, fun i h => by simp at h⟩, Below.refl _ _⟩
theorem KeepMid.up {w1 : World} {wv tv : Value} {ns ts : List ItemV} {i : Nat} {wr w' : World} (h : KeepMid w1 wv tv ns ts i wr) (b : Below wr.heap.size wr w') : KeepMid w1 wv tv ns ts i w' := by
  obtain ⟨S, h1, h2⟩ := h.win
  obtain ⟨xs, h3, h4⟩ := h.row
  exact ⟨h.kept, h.len, h.smN, h.smT, ⟨S, h1.up b, h2⟩, ⟨xs, h3.up b, h4⟩, h.bel.trans (b.mono h.bel.size)⟩
theorem KeepMid.more {w1 : World} {wv tv : Value} {ns ts : List ItemV} {i j : Nat} {wr : World} (h : KeepMid w1 wv tv ns ts i wr) (hj : i ≤ j) : KeepMid w1 wv tv ns ts j wr := ⟨h.kept, Nat.le_trans h.len hj, h.smN, h.smT, h.win, h.row, h.bel⟩
theorem KeepMid.rdN {w1 : World} {wv tv : Value} {ns ts : List ItemV} {i : Nat} {wr : World} (h : KeepMid w1 wv tv ns ts i wr) : ItemSRd wr wv ns := by
  obtain ⟨S, h1, h2⟩ := h.win
  exact h1.rd
theorem KeepMid.rdT {w1 : World} {wv tv : Value} {ns ts : List ItemV} {i : Nat} {wr : World} (h : KeepMid w1 wv tv ns ts i wr) : ItemSRd wr tv ts := by
  obtain ⟨xs, h3, h4⟩ := h.row
  exact h3.rdT (h4.up h.bel)
/-- another window takes the first one's place -/
theorem KeepMid.next {w1 : World} {wv tv v : Value} {ns ns' ts : List ItemV} {i : Nat} {wr w' : World} {S : List Nat} (h : KeepMid w1 wv tv ns ts i wr) (b : Below wr.heap.size wr w') (hf : ItemSFull S w' v ns') (hS : ∀ k ∈ S, wr.heap.size ≤ k) (hk : Kept ns' ts) (hs : SmallItemS ns') : KeepMid w1 v tv ns' ts i w' := by
  have h' := h.up b
  obtain ⟨xs, h3, h4⟩ := h.row
  have hz := h.bel.size
  exact ⟨hk, h.len, hs, h.smT, ⟨S, hf, fun k hk => ⟨by have := hS k hk; omega, fun e => by have := h3.lt k e; have := hS k hk; omega⟩⟩, h'.row, h'.bel⟩
/-- one item more was taken: the row grows -/
theorem KeepMid.took {w1 : World} {wv tv v : Value} {ns ns' ts : List ItemV} {i : Nat} {wr w' w8 : World} {S : List Nat} {z : Int} {u : Value} {ms : List MarkV} {g n c : Nat} {xs : List (Int × Value)} (h : KeepMid w1 wv tv ns ts i wr) (b : Below wr.heap.size wr w') (hf : ItemSFull S w' v ns') (hS : ∀ k ∈ S, wr.heap.size ≤ k)
    (hk : Kept ns' (ts ++ [⟨z, ms⟩])) (hs : SmallItemS ns') (hit : SmallItem ⟨z, ms⟩) (hu : MarkSRd w1 u ms) (h4 : TakAre w1 xs ts) (h3 : ItRow w1.heap.size wr tv xs)
    (r8 : ItRow w1.heap.size w8 (.slice (some ⟨g, 0, none⟩) n c) (xs ++ [(z, u)])) (gr : w'.grownBy w8 tv.ownBlock) (hg : tv.ownBlock = some g ∨ g = w'.heap.size) : KeepMid w1 v (.slice (some ⟨g, 0, none⟩) n c) ns' (ts ++ [⟨z, ms⟩]) (i + 1) w8 := by
  have hz := h.bel.size
  have t8 : Turn tv.ownBlock.toList w' w8 := Turn.of_grown gr (fun k hk => .inl (by rw [hk]; simp))
  have hlt := hf.lt
  refine ⟨hk, by have := h.len; simp; omega, hs, fun x hx => ?_, ⟨S, hf.turn t8 (fun k hk hm => ?_), fun k hk => ⟨by have := hS k hk; omega, fun e => ?_⟩⟩, ⟨_, r8, h4.snoc hu⟩, ?_⟩
  · rcases List.mem_append.1 hx with q | q
    · exact h.smT x q
    · simp at q; rw [q]; exact hit
  · have := h3.lt k (by simpa using hm); have := hS k hk; omega
  · simp only [Value.ownBlock, Option.some.injEq] at e
    subst e
    rcases hg with q | q
    · have := h3.lt _ q; have := hS _ hk; omega
    · have := hlt _ hk; omega
  · exact Below.grown (h.bel.trans (b.mono hz)) gr (h.bel.trans (b.mono hz)).size (fun y hy => h3.ge y hy)
end Go.Proofs.Ytlbhandkpnjgmaa
