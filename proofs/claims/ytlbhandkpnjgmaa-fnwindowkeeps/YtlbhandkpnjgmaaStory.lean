/-
  Rows of numbers, and rows of them: the moments that the laws on windows draw.
-/
import Derived.Test.YtlbhandkpnjgmaaDrawMarks
import Derived.Test.YtlbhandkpnjgmaaRdy
import Derived.Test.YtlbhandkpnjgmaaBoxes
import Derived.Deep.AppendLies
import Derived.Laws.OwnMore
import Derived.Handy
set_option linter.unusedVariables false
namespace Go.Proofs.Ytlbhandkpnjgmaa
open Go.RowKit Go.Maps Go.Deep

def ivV (t : Int) : Value := .int .i64 t
/-- a row of numbers, at or above a block, that one may append to and write -/
def IvRow (B : Nat) (w : World) (v : Value) (ts : List Int) : Prop := w.ownsRow B 3 1 v ts.length (ts.map ivV)
theorem IvRow.form {B : Nat} {w : World} {v : Value} {ts : List Int} (h : IvRow B w v ts) : ∃ a c, v = .slice a ts.length c := by
  rcases h.2 with ⟨rfl, h0⟩ | ⟨g, cap, cur, rfl, _⟩
  · rw [h0]; exact ⟨_, _, rfl⟩
  · exact ⟨_, _, rfl⟩
theorem IvRow.ge {B : Nat} {w : World} {v : Value} {ts : List Int} (h : IvRow B w v ts) : ∀ g, v.ownBlock = some g → B ≤ g := by
  intro g hg
  rcases h.2 with ⟨rfl, _⟩ | ⟨g', cap, cur, rfl, hB, _⟩
  · simp [Value.ownBlock] at hg
  · simp [Value.ownBlock] at hg; omega
theorem IvRow.keep {B : Nat} {w w' : World} {v : Value} {ts : List Int} (h : IvRow B w v ts) (hk : ∀ g, v.ownBlock = some g → w'.heap[g]? = w.heap[g]?) : IvRow B w' v ts := by
  rcases h with ⟨hl, h | ⟨g, cap, cur, rfl, hB, hg, hr⟩⟩
  · exact ⟨hl, .inl h⟩
  · exact ⟨hl, .inr ⟨g, cap, cur, rfl, hB, (hk g rfl).trans hg, hr⟩⟩
theorem IvRow.lt {B : Nat} {w : World} {v : Value} {ts : List Int} (h : IvRow B w v ts) : ∀ g, v.ownBlock = some g → g < w.heap.size := by
  intro g hg
  rcases h.2 with ⟨rfl, _⟩ | ⟨g', cap, cur, rfl, hB, hh, _⟩
  · simp [Value.ownBlock] at hg
  · simp [Value.ownBlock] at hg
    subst hg
    exact (Array.getElem?_eq_some_iff.1 hh).1
theorem IvRow.up {B : Nat} {w w' : World} {v : Value} {ts : List Int} (h : IvRow B w v ts) (hb : Below w.heap.size w w') : IvRow B w' v ts := h.keep (fun g hg => hb.block g (h.lt g hg))
theorem IvRow.typed {B : Nat} {w : World} {v : Value} {ts : List Int} (h : IvRow B w v ts) : ∀ g, v.ownBlock = some g → ∃ cur, w.heap[g]? = some (.cells cur 3) := by
  intro g hg
  rcases h.2 with ⟨rfl, _⟩ | ⟨g', cap, cur, rfl, hB, hh, _⟩
  · simp [Value.ownBlock] at hg
  · simp [Value.ownBlock] at hg
    subst hg
    exact ⟨cur, hh⟩
/-- four numbers, none of them great -/
def Four (ts : List Int) : Prop := ts.length = 4 ∧ ∀ t ∈ ts, 1 ≤ t ∧ t ≤ 1000
theorem IvRow.cells {B : Nat} {w : World} {a : Option Addr} {n c : Nat} {ts : List Int} (h : IvRow B w (.slice a n c) ts) (h0 : 0 < ts.length) : ∃ g, a = some ⟨g, 0, none⟩ ∧ n = ts.length ∧ B ≤ g ∧ g < w.heap.size ∧ ∀ i (hi : i < ts.length), w.cell? ⟨g, i, none⟩ = some (.int .i64 ts[i]) ∧ w.frozen? ⟨g, i, none⟩ = false := by
  have hh : w.ownsRow B 3 1 (.slice a n c) ts.length (ts.map ivV) := h
  rcases h.2 with ⟨e, h00⟩ | ⟨g, cap, cur, e, hB, hg, _⟩
  · omega
  · simp only [Value.slice.injEq] at e
    obtain ⟨rfl, rfl, rfl⟩ := e
    refine ⟨g, rfl, rfl, hB, (Array.getElem?_eq_some_iff.1 hg).1, fun i hi => ⟨?_, hh.frozenAt _⟩⟩
    rw [hh.cellAt _ (by omega)]
    simp [ivV, hi]
/-- a row of rows of numbers -/
def IvvRow (B : Nat) (w : World) (v : Value) (vs : List Value) : Prop := w.ownsRow B 43 1 v vs.length vs
theorem IvvRow.form {B : Nat} {w : World} {v : Value} {vs : List Value} (h : IvvRow B w v vs) : ∃ a c, v = .slice a vs.length c := by
  rcases h.2 with ⟨rfl, h0⟩ | ⟨g, cap, cur, rfl, _⟩
  · rw [h0]; exact ⟨_, _, rfl⟩
  · exact ⟨_, _, rfl⟩
theorem IvvRow.ge {B : Nat} {w : World} {v : Value} {vs : List Value} (h : IvvRow B w v vs) : ∀ g, v.ownBlock = some g → B ≤ g := by
  intro g hg
  rcases h.2 with ⟨rfl, _⟩ | ⟨g', cap, cur, rfl, hB, _⟩
  · simp [Value.ownBlock] at hg
  · simp [Value.ownBlock] at hg; omega
theorem IvvRow.lt {B : Nat} {w : World} {v : Value} {vs : List Value} (h : IvvRow B w v vs) : ∀ g, v.ownBlock = some g → g < w.heap.size := by
  intro g hg
  rcases h.2 with ⟨rfl, _⟩ | ⟨g', cap, cur, rfl, hB, hh, _⟩
  · simp [Value.ownBlock] at hg
  · simp [Value.ownBlock] at hg
    subst hg
    exact (Array.getElem?_eq_some_iff.1 hh).1
theorem IvvRow.keep {B : Nat} {w w' : World} {v : Value} {vs : List Value} (h : IvvRow B w v vs) (hk : ∀ g, v.ownBlock = some g → w'.heap[g]? = w.heap[g]?) : IvvRow B w' v vs := by
  rcases h with ⟨hl, h | ⟨g, cap, cur, rfl, hB, hg, hr⟩⟩
  · exact ⟨hl, .inl h⟩
  · exact ⟨hl, .inr ⟨g, cap, cur, rfl, hB, (hk g rfl).trans hg, hr⟩⟩
theorem IvvRow.up {B : Nat} {w w' : World} {v : Value} {vs : List Value} (h : IvvRow B w v vs) (hb : Below w.heap.size w w') : IvvRow B w' v vs := h.keep (fun g hg => hb.block g (h.lt g hg))
theorem IvvRow.typed {B : Nat} {w : World} {v : Value} {vs : List Value} (h : IvvRow B w v vs) : ∀ g, v.ownBlock = some g → ∃ cur, w.heap[g]? = some (.cells cur 43) := by
  intro g hg
  rcases h.2 with ⟨rfl, _⟩ | ⟨g', cap, cur, rfl, hB, hh, _⟩
  · simp [Value.ownBlock] at hg
  · simp [Value.ownBlock] at hg
    subst hg
    exact ⟨cur, hh⟩
theorem iv_types {w : World} {g : Nat} {c1 c2 : Array Value} (h1 : w.heap[g]? = some (.cells c1 43)) (h2 : w.heap[g]? = some (.cells c2 3)) : False := by
  rw [h1] at h2
  simp at h2
/-- moments: each a row of four numbers -/
structure StoryIs (B : Nat) (w : World) (v : Value) (vs : List Value) : Prop where
  row : IvvRow B w v vs
  el : ∀ x ∈ vs, ∃ ts, IvRow B w x ts ∧ Four ts
theorem StoryIs.turn {B : Nat} {S : List Nat} {w w' : World} {v : Value} {vs : List Value} (h : StoryIs B w v vs) (t : Turn S w w') (hS : ∀ k ∈ S, k < B ∨ w.heap.size ≤ k) : StoryIs B w' v vs :=
  ⟨h.row.keep (fun g hg => t.block g (h.row.lt g hg) (fun hm => by have := hS g hm; have := h.row.ge g hg; have := h.row.lt g hg; omega)), fun x hx => by
    obtain ⟨ts, h1, h2⟩ := h.el x hx
    exact ⟨ts, h1.keep (fun g hg => t.block g (h1.lt g hg) (fun hm => by have := hS g hm; have := h1.ge g hg; have := h1.lt g hg; omega)), h2⟩⟩
theorem StoryIs.up {B : Nat} {w w' : World} {v : Value} {vs : List Value} (h : StoryIs B w v vs) (b : Below w.heap.size w w') : StoryIs B w' v vs := h.turn (Turn.of_below (S := []) b) (by simp)
theorem StoryIs.snoc {B : Nat} {w w' : World} {v v' x : Value} {vs : List Value} {ts : List Int} (h : StoryIs B w v vs) (hx : IvRow B w x ts) (h4 : Four ts) (r : IvvRow B w' v' (vs ++ [x])) (gr : w.grownBy w' v.ownBlock) : StoryIs B w' v' (vs ++ [x]) ∧ IvRow B w' x ts := by
  have k : ∀ {y : Value} {us : List Int}, IvRow B w y us → IvRow B w' y us := fun {y us} hy => hy.keep (fun g hg => gr.block g (hy.lt g hg) (fun e => by
    obtain ⟨c1, e1⟩ := h.row.typed g e.symm
    obtain ⟨c2, e2⟩ := hy.typed g hg
    exact iv_types e1 e2))
  refine ⟨⟨r, fun y hy => ?_⟩, k hx⟩
  rcases List.mem_append.1 hy with hy | hy
  · obtain ⟨us, h1, h2⟩ := h.el y hy
    exact ⟨us, k h1, h2⟩
  · simp at hy
    subst hy
    exact ⟨ts, k hx, h4⟩
theorem infoIv : (Try.prog.info? 3).map (fun i => (i.zero, i.size, i.bytes)) = some (some (.int .i64 0), 1, 8) := by kernel_rfl
theorem infoIvv : (Try.prog.info? 43).map (fun i => (i.zero, i.size, i.bytes)) = some (some (.slice none 0 0), 1, 24) := by kernel_rfl
theorem ivLit (w : World) (B : Nat) (hB : B ≤ w.heap.size) : IvRow B (w.alloc (.cells #[] 3)) (.slice (some ⟨w.heap.size, 0, none⟩) 0 0) [] :=
  World.ownsRow_lit (size := 1) w #[] 0 hB (by unfold maxLen; omega) rfl
theorem ivLit4 (w : World) (B : Nat) (hB : B ≤ w.heap.size) : IvRow B (w.alloc (.cells #[.int .i64 1, .int .i64 1, .int .i64 1, .int .i64 1] 3)) (.slice (some ⟨w.heap.size, 0, none⟩) 4 4) [1, 1, 1, 1] :=
  World.ownsRow_lit (size := 1) w #[.int .i64 1, .int .i64 1, .int .i64 1, .int .i64 1] 4 hB (by unfold maxLen; omega) rfl
theorem ivvLit1 (w : World) (B : Nat) (hB : B ≤ w.heap.size) (x : Value) : IvvRow B (w.alloc (.cells #[x] 43)) (.slice (some ⟨w.heap.size, 0, none⟩) 1 1) [x] :=
  World.ownsRow_lit (size := 1) w #[x] 1 hB (by unfold maxLen; omega) rfl
/-- a row of numbers is copied behind an empty one -/
theorem wpList_ivAppend {w : World} {ops : Array Oper} {rest : List Oper} {o : Oper} {a : Act} {Q : Exit → Act → World → Prop} (hgd : o.guard = none) (s x : Operand)
    (ho : o.op = .call { callee := .builtin .append, args := #[s, x], argTypes := #[43, 43] }) (B : Nat) (v : Value) (ts us : List Int) (g : Nat) (c : Nat) (hs : a.eval s = v) (hx : a.eval x = .slice (some ⟨g, 0, none⟩) us.length c)
    (hv : IvRow B w v ts) (hc : ∀ i (h : i < us.length), w.cell? ⟨g, i, none⟩ = some (.int .i64 us[i])) (h0 : 0 < us.length) (hl : ts.length + us.length ≤ 1000000) (hB : B ≤ w.heap.size)
    (h : ∀ g' n c w', IvRow B w' (.slice (some ⟨g', 0, none⟩) n c) (ts ++ us) → Hid (n = ts.length + us.length) → w.grownBy w' v.ownBlock → (v.ownBlock = some g' ∨ g' = w.heap.size) → wpList Try.prog ops Q rest (a.put o.dst (.slice (some ⟨g', 0, none⟩) n c)) w') : wpList Try.prog ops Q (o :: rest) a w := by
  obtain ⟨i0, hi, hz0, hz1, hz2⟩ := info_parts1 infoIv
  refine wpList_append_lies w hgd s x 43 ho B 3 i0 _ 1 8 Try.underlying43 hi hz0 hz1 hz2 rfl (by decide) v ts.length (ts.map ivV) hs hv ⟨g, 0, none⟩ us.length c (us.map ivV) hx (by simp) (fun j u hj => by
    obtain ⟨hj', e⟩ := List.getElem?_eq_some_iff.1 hj
    rw [List.length_map] at hj'
    have := hc j hj'
    rw [List.getElem_map] at e
    rw [← e]
    by_cases hz : j = 0
    · subst hz; simpa [Addr.add, ivV] using this
    · simpa [Addr.add, hz, ivV] using this) (by intro u hu; obtain ⟨z, _, rfl⟩ := List.mem_map.1 hu; rfl) h0 (by unfold maxLen; omega) (by omega) hB w.heap.size rfl ?_
  intro g' cap w' h2 h3 h4 h5
  refine h g' _ cap w' ?_ (hide rfl) h3 h4
  unfold IvRow
  rw [List.length_append, List.map_append]
  exact h2
/-- one more row -/
theorem wpList_ivvAppend {w : World} {ops : Array Oper} {rest : List Oper} {o : Oper} {a : Act} {Q : Exit → Act → World → Prop} (hgd : o.guard = none) (s x : Operand)
    (ho : o.op = .call { callee := .builtin .append, args := #[s, x], argTypes := #[66, 66] }) (B : Nat) (v : Value) (vs : List Value) (ya : Option Addr) (yn yc : Nat) (g : Nat) (hs : a.eval s = v) (hx : a.eval x = .slice (some ⟨g, 0, none⟩) 1 1)
    (hv : IvvRow B w v vs) (c0 : w.cell? ⟨g, 0, none⟩ = some (.slice ya yn yc)) (hl : vs.length ≤ 1000000) (hB : B ≤ w.heap.size)
    (h : ∀ g' n c w', IvvRow B w' (.slice (some ⟨g', 0, none⟩) n c) (vs ++ [.slice ya yn yc]) → Hid (n = vs.length + 1) → w.grownBy w' v.ownBlock → wpList Try.prog ops Q rest (a.put o.dst (.slice (some ⟨g', 0, none⟩) n c)) w') : wpList Try.prog ops Q (o :: rest) a w := by
  obtain ⟨i0, hi, hz0, hz1, hz2⟩ := info_parts1 infoIvv
  refine wpList_append_lies w hgd s x 66 ho B 43 i0 _ 1 24 Try.underlying66 hi hz0 hz1 hz2 rfl (by decide) v vs.length vs hs hv ⟨g, 0, none⟩ 1 1 [.slice ya yn yc] hx rfl (by intro j u hj; match j, hj with | 0, hj => simp at hj; subst hj; simpa [Addr.add] using c0) (by intro u hu; simp at hu; rw [hu]; rfl) (by decide) (by unfold maxLen; omega) (by omega) hB w.heap.size rfl ?_
  intro g' cap w' h2 h3 h4 h5
  refine h g' _ cap w' ?_ (hide rfl) h3
  unfold IvvRow
  rw [List.length_append]
  exact h2
/-- one number of the row is written anew -/
theorem IvRow.set {B g n c : Nat} {w : World} {ts : List Int} (h : IvRow B w (.slice (some ⟨g, 0, none⟩) n c) ts) (k : Nat) (hk : k < ts.length) (z : Int) : IvRow B (w.setCell ⟨g, k, none⟩ (.int .i64 z)) (.slice (some ⟨g, 0, none⟩) n c) (ts.set k z) := by
  have hh : w.ownsRow B 3 1 (.slice (some ⟨g, 0, none⟩) n c) ts.length (ts.map ivV) := h
  have e : n = ts.length := by
    rcases h.2 with ⟨e, _⟩ | ⟨g', cap, cur, e, _⟩
    · simp at e
    · simp only [Value.slice.injEq] at e; exact e.2.1
  subst e
  have q := (hh.stored k (.int .i64 z)).1
  unfold IvRow
  rw [List.length_set, List.map_set]
  exact q
theorem four_set {ts : List Int} (h : Four ts) (k : Nat) {z : Int} (hz : 1 ≤ z ∧ z ≤ 1000) : Four (ts.set k z) :=
  ⟨by rw [List.length_set]; exact h.1, fun t ht => by
    rcases List.mem_or_eq_of_mem_set ht with h1 | h1
    · exact h.2 t h1
    · rw [h1]; exact hz⟩
def RetStory (base g N : Nat) (w : World) (n : Nat) (e : Ending) (w' : World) : Prop := ∃ a c vs, e = .returned (.slice a n c) ∧ Hid (StoryIs w.heap.size w' (.slice a n c) vs) ∧ Hid (vs.length = n) ∧ Hid (Rdy base g N w w')
/-- what stands between the rounds: the moments, and the last of them, its numbers at most k + 1 -/
structure StoryMid (base g N : Nat) (w : World) (va vo : Value) (k : Nat) (wr : World) : Prop where
  st : ∃ vs, StoryIs w.heap.size wr vo vs ∧ vs.length = k
  cur : ∃ ts, IvRow w.heap.size wr va ts ∧ ts.length = 4 ∧ ∀ t ∈ ts, 1 ≤ t ∧ t ≤ (k : Int)
  rd : Rdy base g N w wr
theorem StoryIs.low {B : Nat} {w w' : World} {v : Value} {vs : List Value} (h : StoryIs B w v vs) (b : Below w.heap.size w w') : StoryIs B w' v vs := h.up b
set_option maxRecDepth 20000 in
set_option maxHeartbeats 6400000 in
theorem l34Story_any (base g N n : Nat) (w : World) (hn1 : 1 ≤ n) (hn : n ≤ 100) (hN : N ≤ 10000) (h : Rdy base g N w w) :
    Calls Try.prog 27 #[.pointer (some ⟨g, 0, none⟩), .int .i64 (n : Int)] w fun e w' => RetStory base g (N + 100) w n e w' := by
  have hgl := h.lt
  have R0 := hide h
  clear h
  have A1 := hide ((Below.refl w.heap.size w).alloc (Nat.le_refl _) (.cells #[.int .i64 1, .int .i64 1, .int .i64 1, .int .i64 1] 3))
  have A2 := hide ((unhide A1).alloc (by simp) (.cells #[.slice (some ⟨w.heap.size, 0, none⟩) 4 4] 43))
  have L1 := hide ((ivLit4 w w.heap.size (Nat.le_refl _)).up ((Below.refl _ _).alloc (Nat.le_refl _) (.cells #[.slice (some ⟨w.heap.size, 0, none⟩) 4 4] 43)))
  have L2 := hide (ivvLit1 (w.alloc (.cells #[.int .i64 1, .int .i64 1, .int .i64 1, .int .i64 1] 3)) w.heap.size (by simp) (.slice (some ⟨w.heap.size, 0, none⟩) 4 4))
  rw [World.size_alloc] at L2
  have M0 := hide (show StoryMid base g (N + 1) w (.slice (some ⟨w.heap.size, 0, none⟩) 4 4) (.slice (some ⟨w.heap.size + 1, 0, none⟩) 1 1) 1 _ from ⟨⟨_, ⟨unhide L2, fun x hx => by simp at hx; subst hx; exact ⟨_, unhide L1, rfl, by simp⟩⟩, rfl⟩, ⟨_, unhide L1, rfl, by simp⟩, ((unhide R0).up (unhide A2)).more (by omega)⟩)
  clear A1 A2 L1 L2 R0
  go_enter Try.func27, Try.ntmps27
  go_wp2_with fail
  go_loopw [5, 6, 7] (fun va vo i wr => ∃ (k : Nat) (aa : Option Addr) (an ac : Nat) (oa : Option Addr) (on oc : Nat), 1 ≤ k ∧ k ≤ n ∧ i = .int .i64 (k : Int) ∧ va = .slice aa an ac ∧ vo = .slice oa on oc ∧ Hid (StoryMid base g (N + k) w (.slice aa an ac) (.slice oa on oc) k wr)) (fun _ _ i _ => n - (intOf i).toNat)
  case atStart => exact ⟨1, _, _, _, _, _, _, Nat.le_refl _, hn1, rfl, rfl, rfl, M0⟩
  case round =>
    obtain ⟨k, aa, an, ac, oa, on, oc, hk1, hk, rfl, rfl, rfl, HM⟩ := hrel
    by_cases hlt : k < n
    · obtain ⟨⟨vs, hst, hvl⟩, ⟨ts, hcu, ht4, htb⟩, hrd⟩ := unhide HM
      obtain ⟨ga, rfl, rfl, hga, hgal, hcell⟩ := hcu.cells (by omega)
      obtain ⟨t0, t1, t2, t3, rfl⟩ : ∃ t0 t1 t2 t3, ts = [t0, t1, t2, t3] := by
        match ts, ht4 with
        | [a, b, c, d], _ => exact ⟨a, b, c, d, rfl⟩
      have A1 := hide ((Below.refl wr.heap.size wr).alloc (Nat.le_refl _) (.cells #[] 3))
      have L1 := hide (ivLit wr w.heap.size hrd.size)
      have ST := hide hst
      have HVL := hide hvl
      have HTB := hide htb
      have RD := hide hrd
      have HC := hide (fun i (hi : i < [t0, t1, t2, t3].length) => show (wr.alloc (.cells #[] 3)).cell? ⟨ga, i, none⟩ = some (.int .i64 [t0, t1, t2, t3][i]) from ((unhide A1).cell (by exact hgal)).trans (hcell i hi).1)
      have hz : w.heap.size ≤ wr.heap.size := hrd.size
      have HZ1 := hide (show w.heap.size ≤ (wr.alloc (.cells #[] 3)).heap.size by simp; omega)
      clear hst hvl ht4 htb hrd hcu hcell HM M0
      simp only [List.length_cons, List.length_nil, Nat.zero_add, Nat.reduceAdd]
      go_wp2_with (first
        | (at_builtin; refine wpList_ivAppend rfl _ _ rfl w.heap.size (.slice (some ⟨wr.heap.size, 0, none⟩) 0 0) [] [t0, t1, t2, t3] ga ac rfl rfl (unhide L1) (unhide HC) (by simp) (by simp) (unhide HZ1) ?_; intro g2 n2 c2 w2 r2 hn2 gr2 hg2; simp only [List.nil_append] at r2; have R2 := hide r2; have G2 := hide gr2; have HG2 := hide hg2; clear r2 gr2 hg2)
        | fail)
      have hn4 : n2 = 4 := by simpa using unhide hn2
      subst hn4
      have HGE := hide (show wr.heap.size ≤ g2 from by rcases unhide HG2 with e | e; simp [Value.ownBlock] at e; omega; simp at e; omega)
      have T2 := hide (show Turn [g, wr.heap.size, g2] wr w2 from (Turn.of_below (unhide A1)).trans (Turn.of_grown (unhide G2) (fun k hk => by simp [Value.ownBlock] at hk; exact .inl (by simp [hk]))))
      have D2 := hide (((unhide RD).up (unhide A1)).grown (unhide G2) (fun k hk => by simp [Value.ownBlock] at hk; omega))
      clear G2 HG2 A1 L1 HC hn2 RD
      go_wp2_with fail
      refine (pick_rdy base g _ 4 w w2 (by omega) (by omega) (by omega) (unhide D2)).mono ?_
      rintro e w3 ⟨z, rfl, hz4, D3, T3⟩
      have R3 := hide ((unhide R2).keep (fun y hy => (unhide T3).block y ((unhide R2).lt y hy) (by have := (unhide R2).ge y hy; simp; omega)))
      have T23 := hide ((unhide T2).trans ((unhide T3).mono (fun k hk => by simp at hk; exact .inl (by simp [hk]))))
      obtain ⟨g2', hg2', -, hg2B, hg2l, hcells⟩ := (unhide R3).cells (by simp)
      simp only [Option.some.injEq, Addr.mk.injEq, and_true] at hg2'
      subst hg2'
      have hz4' : z < [t0, t1, t2, t3].length := by simp; omega
      have hc3 := hcells z hz4'
      have HTZ := hide (unhide HTB _ (List.getElem_mem hz4'))
      have R4 := hide ((unhide R3).set z hz4' ([t0, t1, t2, t3][z] + 1))
      have F4 := hide (show Four ([t0, t1, t2, t3].set z ([t0, t1, t2, t3][z] + 1)) ∧ ∀ t ∈ [t0, t1, t2, t3].set z ([t0, t1, t2, t3][z] + 1), 1 ≤ t ∧ t ≤ ((k + 1 : Nat) : Int) from by
        have h1 := unhide HTZ
        have h2 := unhide HTB
        refine ⟨four_set ⟨rfl, fun t ht => by have := h2 t ht; omega⟩ z (by omega), fun t ht => ?_⟩
        rcases List.mem_or_eq_of_mem_set ht with h | h
        · have := h2 t h; omega
        · rw [h]; omega)
      obtain ⟨c3, f3⟩ := hc3
      have htz := unhide HTZ
      clear hcells T3 D2 R2 T2
      generalize [t0, t1, t2, t3][z] = tz at *
      generalize [t0, t1, t2, t3].set z (tz + 1) = us at *
      have D4 := hide (show Rdy base g (N + (k + 1)) w (w3.setCell ⟨g2, z, none⟩ (.int .i64 (tz + 1))) from ((unhide D3).turns ((Turn.refl [g2] w3).setCell (by simp) _ _) (by simp; omega)).more (by omega))
      have T24 := hide ((unhide T23).setCell (g := g2) (by simp) z (.int .i64 (tz + 1)))
      have hz3 : wr.heap.size ≤ w3.heap.size := (unhide T23).size
      have A5 := hide ((Below.refl _ (w3.setCell ⟨g2, z, none⟩ (.int .i64 (tz + 1)))).alloc (Nat.le_refl _) (.cells #[.slice (some ⟨g2, 0, none⟩) 4 c2] 43))
      have T25 := hide ((unhide T24).trans (Turn.of_below (unhide A5)))
      have ST5 := hide ((unhide ST).turn (unhide T25) (by have := unhide HGE; simp; omega))
      have R5 := hide ((unhide R4).up (unhide A5))
      have C5 := hide (show ((w3.setCell ⟨g2, z, none⟩ (.int .i64 (tz + 1))).alloc (.cells #[.slice (some ⟨g2, 0, none⟩) 4 c2] 43)).cell? ⟨w3.heap.size, 0, none⟩ = some (.slice (some ⟨g2, 0, none⟩) 4 c2) from by have := (boxF_new (w3.setCell ⟨g2, z, none⟩ (.int .i64 (tz + 1))) [.slice (some ⟨g2, 0, none⟩) 4 c2] 43).1.at 0 _ rfl; simpa using this)
      have HVL2 := hide (show vs.length ≤ 1000000 by have := unhide HVL; omega)
      have HZ5 := hide (show w.heap.size ≤ ((w3.setCell ⟨g2, z, none⟩ (.int .i64 (tz + 1))).alloc (.cells #[.slice (some ⟨g2, 0, none⟩) 4 c2] 43)).heap.size by simp; omega)
      have D5 := hide ((unhide D4).up (unhide A5))
      clear D3 T23 T24 ST R3 R4 D4
      go_wp2_with (first
        | (at_builtin; refine wpList_ivvAppend rfl _ _ rfl w.heap.size (.slice oa on oc) vs (some ⟨g2, 0, none⟩) 4 c2 w3.heap.size rfl rfl (unhide ST5).row (unhide C5) (unhide HVL2) (unhide HZ5) ?_; intro g6 n6 c6 w6 r6 hn6 gr6; have K6 := hide ((unhide ST5).snoc (unhide R5) (unhide F4).1 r6 gr6); have D6 := hide ((unhide D5).grown gr6 (fun y hy => (unhide ST5).row.ge y hy)); clear r6 gr6)
        | fail)
      go_roundw
      case rel => exact ⟨k + 1, _, 4, c2, _, n6, c6, by omega, by omega, by go_num, rfl, rfl, hide ⟨⟨_, (unhide K6).1, by have := unhide HVL; simp; omega⟩, ⟨us, (unhide K6).2, (unhide F4).1.1, (unhide F4).2⟩, unhide D6⟩⟩
      case measure => simp [intOf]; omega
    · have e : k = n := by omega
      subst e
      obtain ⟨⟨vs, hst, hvl⟩, -, hrd⟩ := unhide HM
      have hon : on = k := by obtain ⟨_, _, e⟩ := hst.row.form; simp only [Value.slice.injEq] at e; omega
      subst hon
      have HE := hide (show RetStory base g (N + 100) w on (.returned (.slice oa on oc)) wr from ⟨oa, oc, vs, rfl, hide hst, hide hvl, hide (hrd.more (by omega))⟩)
      clear hst hvl hrd HM
      go_wp2_with fail
      go_ret
      exact unhide HE
end Go.Proofs.Ytlbhandkpnjgmaa
