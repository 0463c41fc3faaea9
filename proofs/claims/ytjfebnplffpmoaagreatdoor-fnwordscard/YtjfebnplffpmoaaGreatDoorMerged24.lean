/-
  The specification's drawing of inputs out of bytes: a reader that goes on for ever, and what it picks.
-/
/-
  The specification's drawing of lists of nodes: whatever is drawn is a list of nodes in new memory, not too long, with short names.
-/
import Derived.Test.YtjfebnplffpmoaaGreatDoorSpecTree
import Derived.Test.YtjfebnplffpmoaaGreatDoorReader


namespace Go.Proofs.YtjfebnplffpmoaaGreatDoor
open Go.RowKit Go.Maps Go.Deep

def nodeCells (x : NodeV) : List Value := [.int .i64 x.kind, .int .i64 x.num, .string x.name, .int .i64 x.kids]
def cellsL (ns : List NodeV) : List Value := ns.flatMap nodeCells
theorem cellsL_len (ns : List NodeV) : (cellsL ns).length = ns.length * 4 := by
  induction ns with
  | nil => rfl
  | cons x t ih => simp only [cellsL, List.flatMap_cons, List.length_append, List.length_cons] at *; simp only [nodeCells, List.length_cons, List.length_nil]; omega
theorem cellsL_app (a b : List NodeV) : cellsL (a ++ b) = cellsL a ++ cellsL b := by simp [cellsL]
theorem cellsL_at (ns : List NodeV) : ∀ i (h : i < ns.length), (cellsL ns)[i * 4]? = some (.int .i64 ns[i].kind) ∧ (cellsL ns)[i * 4 + 1]? = some (.int .i64 ns[i].num) ∧ (cellsL ns)[i * 4 + 2]? = some (.string ns[i].name) ∧ (cellsL ns)[i * 4 + 3]? = some (.int .i64 ns[i].kids) := by
  induction ns with
  | nil => intro i h; exact absurd h (Nat.not_lt_zero _)
  | cons x t ih =>
    intro i h
    have e : cellsL (x :: t) = nodeCells x ++ cellsL t := rfl
    cases i with
    | zero => rw [e]; exact ⟨rfl, rfl, rfl, rfl⟩
    | succ i =>
      obtain ⟨a, b, c, d⟩ := ih i (by simpa using h)
      rw [e]
      have hl : (nodeCells x).length = 4 := rfl
      refine ⟨?_, ?_, ?_, ?_⟩
      all_goals
        rw [List.getElem?_append_right (by rw [hl]; omega), hl]
        simp only [List.getElem_cons_succ]
      · rw [show (i + 1) * 4 - 4 = i * 4 by omega]; exact a
      · rw [show (i + 1) * 4 + 1 - 4 = i * 4 + 1 by omega]; exact b
      · rw [show (i + 1) * 4 + 2 - 4 = i * 4 + 2 by omega]; exact c
      · rw [show (i + 1) * 4 + 3 - 4 = i * 4 + 3 by omega]; exact d
theorem cellsL_one (ns : List NodeV) : ∀ u ∈ cellsL ns, u.oneCell' = true := by
  intro u hu
  simp only [cellsL, List.mem_flatMap, nodeCells, List.mem_cons, List.not_mem_nil, or_false] at hu
  obtain ⟨x, _, rfl | rfl | rfl | rfl⟩ := hu <;> rfl

/-- a slice of the call's own, from its row's head on, holds these nodes -/
def NodeRow (B : Nat) (w : World) (k cap : Nat) (ns : List NodeV) : Prop := w.ownsRow B 49 4 (.slice (some ⟨k, 0, none⟩) ns.length cap) ns.length (cellsL ns)
def ShortNames (ns : List NodeV) : Prop := ∀ n ∈ ns, n.name.size ≤ 16
theorem NodeRow.nodesAt {B : Nat} {w : World} {k cap : Nat} {ns : List NodeV} (h : NodeRow B w k cap ns) : NodesAt w k 0 ns := by
  intro i hi
  obtain ⟨a, b, c, d⟩ := cellsL_at ns i hi
  refine ⟨?_, ?_, ?_, ?_⟩
  all_goals
    rw [Nat.zero_add, World.ownsRow.cellAt h _ (by omega)]
    assumption
theorem NodeRow.block {B : Nat} {w : World} {k cap : Nat} {ns : List NodeV} (h : NodeRow B w k cap ns) : B ≤ k ∧ k < w.heap.size := World.ownsRow.lt h k rfl
theorem NodeRow.news {B : Nat} {w : World} {k cap : Nat} {ns : List NodeV} (h : NodeRow B w k cap ns) : ∀ j u, (cellsL ns)[j]? = some u → w.cell? ((⟨k, 0, none⟩ : Addr).add j) = some u := World.ownsRow.cells h rfl
theorem NodeRow.turn {B : Nat} {w w' : World} {k cap : Nat} {ns : List NodeV} {S : List Nat} (h : NodeRow B w k cap ns) (ht : Turn S w w') (hk : k ∉ S) : NodeRow B w' k cap ns := by
  refine ⟨h.1, ?_⟩
  rcases h.2 with ⟨h', _⟩ | ⟨g', cap', cur, h', h1, h2, h3⟩
  · simp at h'
  · refine .inr ⟨g', cap', cur, h', h1, ?_, h3⟩
    simp only [Value.slice.injEq, Option.some.injEq, Addr.mk.injEq, and_true, true_and] at h'
    obtain ⟨rfl, rfl⟩ := h'
    rw [ht.block k (Array.getElem?_eq_some_iff.1 h2).1 hk]; exact h2
theorem NodeRow.mono {B B' : Nat} {w : World} {k cap : Nat} {ns : List NodeV} (h : NodeRow B w k cap ns) (hB : B' ≤ B) : NodeRow B' w k cap ns := by
  refine ⟨h.1, ?_⟩
  rcases h.2 with h' | ⟨g', cap', cur, h', h1, h2⟩
  · exact .inl h'
  · exact .inr ⟨g', cap', cur, h', Nat.le_trans hB h1, h2⟩
theorem NodeRow.lit {B : Nat} (w : World) (ns : List NodeV) (hB : B ≤ w.heap.size) (hn : ns.length ≤ 1048576) : NodeRow B (w.alloc (.cells (cellsL ns).toArray 49)) w.heap.size ns.length ns := by
  have := World.ownsRow_lit (base := B) (e := 49) (size := 4) w (cellsL ns).toArray ns.length hB (by unfold maxLen; omega) (by simp [cellsL_len])
  exact this
theorem NodeRow.lit' {B : Nat} (n : Nat) (w : World) (ns : List NodeV) (hn : n = w.heap.size) (hB : B ≤ w.heap.size) (hl : ns.length ≤ 1048576) : NodeRow B (w.alloc (.cells (cellsL ns).toArray 49)) n ns.length ns := by
  subst hn; exact NodeRow.lit w ns hB hl
/-- what an append leaves is such a slice again -/
theorem NodeRow.of {B : Nat} {w : World} {v : Value} {n : Nat} {ns : List NodeV} (h : w.ownsRow B 49 4 v n (cellsL ns)) (h0 : 1 ≤ n) : ∃ k cap, v = .slice (some ⟨k, 0, none⟩) ns.length cap ∧ NodeRow B w k cap ns := by
  have hn : n = ns.length := by have := h.1; rw [cellsL_len] at this; omega
  subst hn
  rcases h.2 with ⟨_, h'⟩ | ⟨g', cap', cur, rfl, h1, h2⟩
  · omega
  · exact ⟨g', cap', rfl, h⟩

def RetNodes (B K : Nat) (e : Ending) (w' : World) : Prop := ∃ k cap ns, e = .returned (.slice (some ⟨k, 0, none⟩) ns.length cap) ∧ NodeRow B w' k cap ns ∧ 1 ≤ ns.length ∧ ns.length ≤ K ∧ ShortNames ns

def RetName (base g q : Nat) (w : World) (e : Ending) (w' : World) : Prop := ∃ s : ByteArray, e = .returned (.string s) ∧ s.size ≤ 16 ∧ RdIn base w' g q ∧ Turn [g] w w'
theorem str_cells (w : World) (l : List ByteArray) (t : TypeId) (j : Nat) (hj : j < l.length) : (w.alloc (.cells (l.map Value.string).toArray t)).cell? ⟨w.heap.size, j, none⟩ = some (.string l[j]) := by
  rw [World.cell?_alloc_at _ _ _ _ rfl]
  simp [hj]
theorem int_cells (w : World) (l : List Int) (t : TypeId) (j : Nat) (hj : j < l.length) : (w.alloc (.cells (l.map (Value.int .i64)).toArray t)).cell? ⟨w.heap.size, j, none⟩ = some (.int .i64 l[j]) := by
  rw [World.cell?_alloc_at _ _ _ _ rfl]
  simp [hj]
def sixNames : List ByteArray := [⟨#[120]⟩, ⟨#[121]⟩, ⟨#[122]⟩, ⟨#[107]⟩, ⟨#[105, 110, 50]⟩, ⟨#[97, 98, 99, 100, 101, 102, 103, 104]⟩]
theorem six_short : ∀ s ∈ sixNames, s.size ≤ 16 := by decide

set_option maxHeartbeats 800000 in
theorem l31Name_any (w : World) (base g p : Nat) (hp : p ≤ 1000000000000) (hr : RdIn base w g p) :
    Calls Tryz.prog 60 #[.pointer (some ⟨g, 0, none⟩)] w fun e w' => RetName base g (p + 1) w e w' := by
  have hlt := hr.lt
  have hA : Turn [] w (w.alloc (.cells (sixNames.map Value.string).toArray 9)) := (Turn.refl _ _).alloc _
  have HR := hide (hr.turn hA (by simp) (by simp))
  have HA := hide hA
  clear hr hA
  go_enter Tryz.func60, Tryz.ntmps60
  go_wp2_with fail
  refine (pick_any _ base g p 6 (by omega) (by omega) hp (unhide HR)).mono ?_
  rintro e w1 ⟨v, rfl, hv0, hv6, hr1, ht1⟩
  obtain ⟨j, rfl⟩ := Int.eq_ofNat_of_zero_le hv0
  have hj : j < sixNames.length := by show j < 6; omega
  have hcell : w1.cell? ⟨w.heap.size, j, none⟩ = some (.string sixNames[j]) := by
    rw [ht1.cell (by simp) (by simp; omega)]
    exact str_cells w sixNames _ j hj
  have hsz := hide (six_short _ (List.getElem_mem hj))
  have HR1 := hide hr1
  have HT1 := hide ht1
  clear hr1 ht1
  go_wp2_with fail
  go_ret
  exact ⟨_, rfl, unhide hsz, unhide HR1, ((unhide HA).mono (by simp)).trans (unhide HT1)⟩

theorem Turn.grown {S : List Nat} {a b c : World} {row : Option Nat} (h : Turn S a b) (hg : b.grownBy c row) (hr : ∀ k, row = some k → k ∈ S ∨ a.heap.size ≤ k) : Turn S a c :=
  ⟨hg.os.trans h.os, hg.tape.trans h.tape, hg.output.trans h.output, Nat.le_trans h.size hg.size,
    fun i hi hS => (hg.block i (Nat.lt_of_lt_of_le hi h.size) (fun e => (hr i e.symm).elim hS (fun e => by omega))).trans (h.block i hi hS)⟩

def RetNum (base g p : Nat) (w : World) (e : Ending) (w' : World) : Prop := ∃ (v : Int) (q : Nat), e = .returned (.int .i64 v) ∧ p ≤ q ∧ q ≤ p + 2 ∧ RdIn base w' g q ∧ Turn [g] w w'
def eightNums : List Int := [0, 64, 65, 999999999999999999, 999999999999999998, 3037000500, 4294967296, 100]

set_option maxHeartbeats 800000 in
theorem l31Num_any (w : World) (base g p : Nat) (hp : p ≤ 900000000000) (hr : RdIn base w g p) :
    Calls Tryz.prog 59 #[.pointer (some ⟨g, 0, none⟩)] w fun e w' => RetNum base g p w e w' := by
  have HR := hide hr
  clear hr
  go_enter Tryz.func59, Tryz.ntmps59
  go_wp2_with fail
  refine (pick_any _ base g p 12 (by omega) (by omega) (by omega) (unhide HR)).mono ?_
  rintro e w1 ⟨v, rfl, hv0, hv6, hr1, ht1⟩
  have HR1 := hide hr1
  have HT1 := hide ht1
  have hg1 := hr1.lt
  clear hr1 ht1
  by_cases hz : v = 0
  · have hz' : (v == 0) = true := by simp [hz]
    clear hz
    have hA : Turn [] w1 (w1.alloc (.cells (eightNums.map (Value.int .i64)).toArray 3)) := (Turn.refl _ _).alloc _
    have HR2 := hide ((unhide HR1).turn hA (by simp) (by simp))
    have HA := hide hA
    clear hA
    go_wp2_with fail
    refine (pick_any _ base g (p + 1) 8 (by omega) (by omega) (by omega) (unhide HR2)).mono ?_
    rintro e w2 ⟨u, rfl, hu0, hu8, hr2, ht2⟩
    obtain ⟨j, rfl⟩ := Int.eq_ofNat_of_zero_le hu0
    have hj : j < eightNums.length := by show j < 8; omega
    have hcell : w2.cell? ⟨w1.heap.size, j, none⟩ = some (.int .i64 eightNums[j]) := by
      rw [ht2.cell (by simp) (by simp; omega)]
      exact int_cells w1 eightNums _ j hj
    have HR3 := hide hr2
    have HT2 := hide ht2
    clear hr2 ht2
    go_wp2_with fail
    go_ret
    exact ⟨_, p + 1 + 1, rfl, by omega, by omega, unhide HR3, (unhide HT1).trans (((unhide HA).mono (by simp)).trans (unhide HT2))⟩
  · have hz' : (v == 0) = false := by simp [hz]
    clear hz
    go_wp2_with fail
    refine (pick_any _ base g (p + 1) 12 (by omega) (by omega) (by omega) (unhide HR1)).mono ?_
    rintro e w2 ⟨u, rfl, hu0, hu8, hr2, ht2⟩
    have HR3 := hide hr2
    have HT2 := hide ht2
    clear hr2 ht2
    go_wp2_with fail
    go_ret
    exact ⟨_, p + 1 + 1, rfl, by omega, by omega, unhide HR3, (unhide HT1).trans (unhide HT2)⟩

theorem infoNode4 : (Tryz.prog.info? 49).map (fun i => (i.zero, i.size, i.bytes)) = some (some (.agg #[.int .i64 0, .int .i64 0, .string ByteArray.empty, .int .i64 0]), 4, 40) := by kernel_rfl

end Go.Proofs.YtjfebnplffpmoaaGreatDoor
