/-
  Lists of rows of bytes: for reading and of one's own; the laws' helpers over them: compared, marked, held against their marks; the same of who listens.
-/
/-
  Three boxes of a call: two arguments and an answer.
-/
/-
  Bytes that come to who listens: what is heard, and what is left. The specification's SplitFeed.
-/
import Derived.Test.YtlgmmibncoedgaaMerged3
import Derived.Test.YtlgmmibncoedgaaMerged8
import Derived.Test.YtlgmmibncoedgaaMerged6
import Derived.Test.YtlgmmibncoedgaaBoxes
import Derived.Test.YtlgmmibncoedgaaSplitWalkS
set_option linter.unusedVariables false
namespace Go.Proofs.Ytlgmmibncoedgaa
open Go.RowKit Go.Maps Go.Deep

def BssAt (w : World) (b off : Nat) (ns : List (List UInt8)) : Prop := ∀ i (h : i < ns.length), ∃ v, w.cell? ⟨b, off + i, none⟩ = some v ∧ ByRd w v ns[i]
def ByteSSRd (w : World) (v : Value) (ns : List (List UInt8)) : Prop := ∃ a c, v = .slice a ns.length c ∧ (ns = [] ∨ ∃ b off, a = some ⟨b, off, none⟩ ∧ b < w.heap.size ∧ BssAt w b off ns)
theorem BssAt.up {w w' : World} {b off : Nat} {ns : List (List UInt8)} (h : BssAt w b off ns) (hb : b < w.heap.size) (hB : Below w.heap.size w w') : BssAt w' b off ns := fun i hi => by
  obtain ⟨v, c, hv⟩ := h i hi
  exact ⟨v, (hB.cell (p := ⟨b, off + i, none⟩) hb).trans c, hv.up hB⟩
theorem ByteSSRd.up {w w' : World} {v : Value} {ns : List (List UInt8)} (h : ByteSSRd w v ns) (hb : Below w.heap.size w w') : ByteSSRd w' v ns := by
  obtain ⟨a, c, rfl, h⟩ := h
  rcases h with h | ⟨b, off, rfl, hl, h⟩
  · exact ⟨a, c, rfl, .inl h⟩
  · exact ⟨_, c, rfl, .inr ⟨b, off, rfl, Nat.lt_of_lt_of_le hl hb.size, h.up hl hb⟩⟩
theorem ByteSSRd.form {w : World} {v : Value} {ns : List (List UInt8)} (h : ByteSSRd w v ns) : ∃ a n c, v = .slice a n c := by
  obtain ⟨a, c, rfl, h⟩ := h
  exact ⟨a, _, c, rfl⟩
structure BssOwn (S : List Nat) (w : World) (b off n : Nat) (f : Nat → List UInt8) (G : Nat → List Nat) (vs : Nat → Value) : Prop where
  mem : b ∈ S
  sub : ∀ i, i < n → ∀ k ∈ G i, k ∈ S
  apart : ∀ i j, i < n → j < n → i ≠ j → ∀ k ∈ G i, k ∉ G j
  off' : ∀ i, i < n → b ∉ G i
  cell : ∀ i, i < n → w.cell? ⟨b, off + i, none⟩ = some (vs i)
  own : ∀ i, i < n → ByOwn (G i) w (vs i) (f i)
def ByteSSOwn (S : List Nat) (w : World) (v : Value) (ns : List (List UInt8)) : Prop :=
  ∃ a c, v = .slice a ns.length c ∧ (∀ k ∈ S, k < w.heap.size) ∧ (ns = [] ∨ ∃ b off G vs, a = some ⟨b, off, none⟩ ∧ BssOwn S w b off ns.length (fun i => ns.getD i []) G vs)
theorem getD_at (ns : List (List UInt8)) (i : Nat) (h : i < ns.length) : ns.getD i [] = ns[i] := by simp [h]
theorem BssOwn.turn {S S' : List Nat} {w w' : World} {b off n : Nat} {f : Nat → List UInt8} {G : Nat → List Nat} {vs : Nat → Value} (h : BssOwn S w b off n f G vs) (hl : ∀ k ∈ S, k < w.heap.size) (ht : Turn S' w w') (hS : ∀ k ∈ S, k ∉ S') : BssOwn S w' b off n f G vs :=
  ⟨h.mem, h.sub, h.apart, h.off', fun i hi => (ht.cell (hl b h.mem) (hS b h.mem)).trans (h.cell i hi), fun i hi => (h.own i hi).turn ht (fun k hk => hS k (h.sub i hi k hk))⟩
theorem ByteSSOwn.rd {S : List Nat} {w : World} {v : Value} {ns : List (List UInt8)} (h : ByteSSOwn S w v ns) : ByteSSRd w v ns := by
  obtain ⟨a, c, rfl, hl, h⟩ := h
  rcases h with h | ⟨b, off, G, vs, rfl, h⟩
  · exact ⟨a, c, rfl, .inl h⟩
  · refine ⟨_, c, rfl, .inr ⟨b, off, rfl, hl b h.mem, fun i hi => ⟨vs i, h.cell i hi, ?_⟩⟩⟩
    have := (h.own i hi).rd
    rwa [getD_at ns i hi] at this
theorem ByteSSOwn.lt {S : List Nat} {w : World} {v : Value} {ns : List (List UInt8)} (h : ByteSSOwn S w v ns) : ∀ k ∈ S, k < w.heap.size := by
  obtain ⟨a, c, rfl, hl, h⟩ := h
  exact hl
theorem ByteSSOwn.turn {S S' : List Nat} {w w' : World} {v : Value} {ns : List (List UInt8)} (h : ByteSSOwn S w v ns) (ht : Turn S' w w') (hS : ∀ k ∈ S, k ∉ S') : ByteSSOwn S w' v ns := by
  obtain ⟨a, c, rfl, hl, h⟩ := h
  refine ⟨a, c, rfl, fun k hk => Nat.lt_of_lt_of_le (hl k hk) ht.size, ?_⟩
  rcases h with h | ⟨b, off, G, vs, rfl, h⟩
  · exact .inl h
  · exact .inr ⟨b, off, G, vs, rfl, h.turn hl ht hS⟩
theorem ByteSSOwn.up {S : List Nat} {w w' : World} {v : Value} {ns : List (List UInt8)} (h : ByteSSOwn S w v ns) (hb : Below w.heap.size w w') : ByteSSOwn S w' v ns := h.turn (Turn.of_below (S := []) hb) (by simp)
def SmallByteSS (ns : List (List UInt8)) : Prop := ns.length ≤ 10000 ∧ ∀ x ∈ ns, x.length ≤ 260
def sumTo (ns : List (List UInt8)) (j : Nat) : Nat := ((ns.take j).map List.length).sum
def nByteSS (ns : List (List UInt8)) : Nat := sumTo ns ns.length
theorem sumTo_succ (ns : List (List UInt8)) (j : Nat) (h : j < ns.length) : sumTo ns (j + 1) = sumTo ns j + ns[j].length := by
  unfold sumTo
  rw [List.take_succ_eq_append_getElem h, List.map_append, List.sum_append]
  simp only [List.map_cons, List.map_nil, List.sum_cons, List.sum_nil, Nat.add_zero]
theorem sumTo_le {ns : List (List UInt8)} (h : SmallByteSS ns) : ∀ j, j ≤ ns.length → sumTo ns j ≤ j * 260 := by
  intro j
  induction j with
  | zero => intro _; simp [sumTo]
  | succ j ih =>
    intro hj
    have := ih (by omega)
    have h1 := h.2 ns[j] (List.getElem_mem (by omega))
    rw [sumTo_succ ns j (by omega)]
    omega
theorem nByteSS_le {ns : List (List UInt8)} (h : SmallByteSS ns) : nByteSS ns ≤ 100000000 := by
  have := sumTo_le h ns.length (Nat.le_refl _)
  have := h.1
  unfold nByteSS
  omega
end Go.Proofs.Ytlgmmibncoedgaa

set_option linter.unusedVariables false
namespace Go.Proofs.Ytlgmmibncoedgaa
open Go.RowKit Go.Maps

theorem boxes3 (w : World) (A B C : List Value) (TA TB TC : TypeId) :
    BoxF (((w.alloc (.cells A.toArray TA)).alloc (.cells B.toArray TB)).alloc (.cells C.toArray TC)) w.heap.size A ∧ BoxF (((w.alloc (.cells A.toArray TA)).alloc (.cells B.toArray TB)).alloc (.cells C.toArray TC)) (w.heap.size + 1) B ∧ BoxF (((w.alloc (.cells A.toArray TA)).alloc (.cells B.toArray TB)).alloc (.cells C.toArray TC)) (w.heap.size + 2) C ∧ Below w.heap.size w (((w.alloc (.cells A.toArray TA)).alloc (.cells B.toArray TB)).alloc (.cells C.toArray TC)) ∧ (((w.alloc (.cells A.toArray TA)).alloc (.cells B.toArray TB)).alloc (.cells C.toArray TC)).heap.size = w.heap.size + 3 := by
  have a1 := boxF_new w A TA
  have b1 := (Below.refl w.heap.size w).alloc (Nat.le_refl _) (.cells A.toArray TA)
  have z1 : (w.alloc (.cells A.toArray TA)).heap.size = w.heap.size + 1 := by simp
  generalize w.alloc (.cells A.toArray TA) = w1 at *
  have a2 := boxF_new w1 B TB
  have u2 := (Below.refl w1.heap.size w1).alloc (Nat.le_refl _) (.cells B.toArray TB)
  have z2 : (w1.alloc (.cells B.toArray TB)).heap.size = w1.heap.size + 1 := by simp
  generalize w1.alloc (.cells B.toArray TB) = w2 at *
  have a3 := boxF_new w2 C TC
  have u3 := (Below.refl w2.heap.size w2).alloc (Nat.le_refl _) (.cells C.toArray TC)
  have z3 : (w2.alloc (.cells C.toArray TC)).heap.size = w2.heap.size + 1 := by simp
  generalize w2.alloc (.cells C.toArray TC) = w3 at *
  refine ⟨(a1.up u2).up u3, ?_, ?_, (b1.trans (u2.mono (by omega))).trans (u3.mono (by omega)), by omega⟩
  · rw [← z1]; exact a2.up u3
  · rw [show w.heap.size + 2 = w2.heap.size by omega]; exact a3
end Go.Proofs.Ytlgmmibncoedgaa

set_option linter.unusedVariables false
namespace Go.Proofs.Ytlgmmibncoedgaa
open Go.RowKit Go.Maps Go.Deep

def feedB (d : SplitV) (bs : List UInt8) : Bool := splitOkB d && decide (bs.length ≤ 4000) && decide (d.lost ≤ 9223372036854775807 - (bs.length : Int) - (d.buf.length : Int))
def feedS (d : SplitV) (bs : List UInt8) : SplitV := if feedB d bs then ⟨(walkW (d.buf ++ bs)).2.1, d.lost + ((walkW (d.buf ++ bs)).2.2 : Int)⟩ else ⟨[], 0⟩
def feedH (d : SplitV) (bs : List UInt8) : List (List UInt8) := if feedB d bs then (walkW (d.buf ++ bs)).1 else []
theorem ok_len {d : SplitV} (h : splitOkB d = true) : d.buf.length ≤ 270 ∧ 0 ≤ d.lost := by
  simp only [splitOkB, Bool.and_eq_true, decide_eq_true_eq] at h
  omega
theorem feed_yes {d : SplitV} {bs : List UInt8} (h : feedB d bs = true) : splitOkB d = true ∧ d.buf.length ≤ 270 ∧ 0 ≤ d.lost ∧ bs.length ≤ 4000 ∧ d.lost ≤ 9223372036854775807 - (bs.length : Int) - (d.buf.length : Int) := by
  simp only [feedB, Bool.and_eq_true, decide_eq_true_eq] at h
  have := ok_len h.1.1
  exact ⟨h.1.1, this.1, this.2, h.1.2, h.2⟩
theorem small_feedS (d : SplitV) (bs : List UInt8) : SmallSplit (feedS d bs) := by
  unfold feedS SmallSplit
  split
  · rename_i h
    have h1 := feed_yes h
    have h2 := (walk_len (d.buf ++ bs)).1
    rw [List.length_append] at h2
    simp only
    omega
  · simp
theorem small_feedH (d : SplitV) (bs : List UInt8) : SmallByteSS (feedH d bs) := by
  unfold feedH
  split
  · rename_i h
    have h1 := feed_yes h
    obtain ⟨h2, h3⟩ := walk_len (d.buf ++ bs)
    rw [List.length_append] at h2
    exact ⟨by omega, h3⟩
  · exact ⟨by simp, by simp⟩
/-- a row of rows of one's own -/
theorem bss_own {B : Nat} {w : World} {v : Value} {vs : List Value} {ns : List (List UInt8)} (r : BvRow B w v vs) (h : BsIs B w vs ns) : ∃ Q, ByteSSOwn Q w v ns ∧ ∀ k ∈ Q, B ≤ k := by
  have hl := h.len
  have hty := r.typed
  have hge := r.ge
  obtain ⟨a, c, hv⟩ := r.form
  rcases Nat.eq_zero_or_pos vs.length with h0 | h0
  · have e : ns = [] := List.eq_nil_of_length_eq_zero (by omega)
    subst e
    subst hv
    exact ⟨[], ⟨a, c, by rw [h0]; rfl, by simp, .inl rfl⟩, by simp⟩
  · have hh : w.ownsRow B 22 1 v vs.length vs := r
    rcases r.2 with ⟨e, h00⟩ | ⟨g, cap, cur, e, hB, hg, _⟩
    · omega
    · subst e
      have hlt : g < w.heap.size := (Array.getElem?_eq_some_iff.1 hg).1
      have ex : ∀ i, ∃ S, i < vs.length → (ByOwn S w (vs.getD i (.bool false)) (ns.getD i []) ∧ ∀ k ∈ S, B ≤ k ∧ (vs.getD i (.bool false)).ownBlock = some k) := fun i => by
        by_cases hi : i < vs.length
        · obtain ⟨S, o1, o2, o3⟩ := (h.el i hi (by omega)).own
          refine ⟨S, fun _ => ?_⟩
          have e1 : vs.getD i (.bool false) = vs[i] := by simp [hi]
          rw [e1, getD_at ns i (by omega)]
          exact ⟨o1, fun k hk => ⟨o2 k hk, o3 k hk⟩⟩
        · exact ⟨[], fun h => absurd h hi⟩
      obtain ⟨G, hG⟩ := Classical.axiomOfChoice ex
      refine ⟨g :: (List.range vs.length).flatMap G, ⟨_, cap, by rw [hl], ?_, .inr ⟨g, 0, G, fun i => vs.getD i (.bool false), rfl, ?_⟩⟩, ?_⟩
      · intro k hk
        simp only [List.mem_cons, List.mem_flatMap, List.mem_range] at hk
        rcases hk with rfl | ⟨i, hi, hk⟩
        · exact hlt
        · exact (hG i hi).1.lt k hk
      · rw [← hl]
        refine ⟨by simp, fun i hi k hk => ?_, fun i j hi hj hij k hk hk' => ?_, fun i hi hm => ?_, fun i hi => ?_, fun i hi => (hG i hi).1⟩
        · simp only [List.mem_cons, List.mem_flatMap, List.mem_range]
          exact .inr ⟨i, hi, hk⟩
        · have q1 := ((hG i hi).2 k hk).2
          have q2 := ((hG j hj).2 k hk').2
          have e1 : vs.getD i (.bool false) = vs[i] := by simp [hi]
          have e2 : vs.getD j (.bool false) = vs[j] := by simp [hj]
          rw [e1] at q1
          rw [e2] at q2
          rcases Nat.lt_or_gt_of_ne hij with hlt | hlt
          · have := h.inc i j hi hj hlt k k q1 q2; omega
          · have := h.inc j i hj hi hlt k k q2 q1; omega
        · have q1 := ((hG i hi).2 g hm).2
          have e1 : vs.getD i (.bool false) = vs[i] := by simp [hi]
          rw [e1] at q1
          obtain ⟨c1, hc1⟩ := hty g (by simp [Value.ownBlock])
          obtain ⟨c2, hc2⟩ := (h.el i hi (by omega)).typed g q1
          exact two_types hc1 hc2
        · rw [Nat.zero_add, hh.cellAt _ (by omega)]
          simp [hi]
      · intro k hk
        simp only [List.mem_cons, List.mem_flatMap, List.mem_range] at hk
        rcases hk with rfl | ⟨i, hi, hk⟩
        · exact hB
        · exact ((hG i hi).2 k hk).1
theorem two33 {w : World} {g : Nat} {a b : Value} (h : BoxF w g [a, b]) : (w.cell? ⟨g, 0, none⟩ = some a ∧ w.cell? ⟨g, 1, none⟩ = some b) ∧ (w.frozen? ⟨g, 0, none⟩ = false ∧ w.frozen? ⟨g, 1, none⟩ = false) := ⟨⟨h.1.at 0 _ rfl, h.1.at 1 _ rfl⟩, h.2 0 (by simp), h.2 1 (by simp)⟩
def RetFeedS (d : SplitV) (bs : List UInt8) (w : World) (e : Ending) (w' : World) : Prop := ∃ v vr, e = .returned (.tuple #[v, vr, .bool (feedB d bs)]) ∧ Hid (SplitRd w' v (feedS d bs)) ∧ Hid (ByteSSRd w' vr (feedH d bs)) ∧ Below w.heap.size w w'
theorem retFeed_no {d : SplitV} {bs : List UInt8} {w w' : World} (h : feedB d bs = false) (b : Below w.heap.size w w') : RetFeedS d bs w (.returned (.tuple #[.agg #[.slice none 0 0, .int .i64 0], .slice none 0 0, .bool false])) w' :=
  ⟨_, _, by rw [h], hide (by unfold feedS; rw [h]; exact ⟨_, rfl, none, 0, rfl, .inl rfl, Nat.le_refl _⟩), hide (by unfold feedH; rw [h]; exact ⟨none, 0, rfl, .inl rfl⟩), b⟩
/-- the same, and what is left is a row of one's own -/
def RetFeedR (d : SplitV) (bs : List UInt8) (w : World) (e : Ending) (w' : World) : Prop := ∃ v0 vr, e = .returned (.tuple #[.agg #[v0, .int .i64 (feedS d bs).lost], vr, .bool (feedB d bs)]) ∧ Hid (ByRow w.heap.size w' v0 (feedS d bs).buf) ∧ Hid (ByteSSRd w' vr (feedH d bs)) ∧ Below w.heap.size w w'
theorem retFeedR_no {d : SplitV} {bs : List UInt8} {w w' : World} (h : feedB d bs = false) (b : Below w.heap.size w w') : RetFeedR d bs w (.returned (.tuple #[.agg #[.slice none 0 0, .int .i64 0], .slice none 0 0, .bool false])) w' :=
  ⟨_, _, by unfold feedS; rw [h]; rfl, hide (by unfold feedS; rw [h]; exact ByRow.nil _ _), hide (by unfold feedH; rw [h]; exact ⟨none, 0, rfl, .inl rfl⟩), b⟩
theorem RetFeedR.s {d : SplitV} {bs : List UInt8} {w w' : World} {e : Ending} (h : RetFeedR d bs w e w') : RetFeedS d bs w e w' := by
  obtain ⟨v0, vr, rfl, h1, h2, h3⟩ := h
  exact ⟨_, _, rfl, hide ⟨v0, rfl, (unhide h1).rd⟩, h2, h3⟩
/-- the same, and what is heard is a row of rows of one's own -/
def RetFeedQ (d : SplitV) (bs : List UInt8) (w : World) (e : Ending) (w' : World) : Prop := ∃ v0 vr vs, e = .returned (.tuple #[.agg #[v0, .int .i64 (feedS d bs).lost], vr, .bool (feedB d bs)]) ∧ Hid (ByRow w.heap.size w' v0 (feedS d bs).buf) ∧ Hid (BvRow w.heap.size w' vr vs) ∧ Hid (BsIs w.heap.size w' vs (feedH d bs)) ∧ Below w.heap.size w w'
theorem retFeedQ_no {d : SplitV} {bs : List UInt8} {w w' : World} (h : feedB d bs = false) (b : Below w.heap.size w w') : RetFeedQ d bs w (.returned (.tuple #[.agg #[.slice none 0 0, .int .i64 0], .slice none 0 0, .bool false])) w' :=
  ⟨_, _, [], by unfold feedS; rw [h]; rfl, hide (by unfold feedS; rw [h]; exact ByRow.nil _ _), hide (BvRow.nil _ _), hide (by unfold feedH; rw [h]; exact BsIs.nil _ _), b⟩
theorem RetFeedQ.r {d : SplitV} {bs : List UInt8} {w w' : World} {e : Ending} (h : RetFeedQ d bs w e w') : RetFeedR d bs w e w' := by
  obtain ⟨v0, vr, vs, rfl, h1, h2, h3, h4⟩ := h
  obtain ⟨Q, OW, _⟩ := bss_own (unhide h2) (unhide h3)
  exact ⟨v0, vr, rfl, h1, hide OW.rd, h4⟩
theorem box2pair (w : World) (x y : List Value) (T U : TypeId) : BoxF ((w.alloc (.cells x.toArray T)).alloc (.cells y.toArray U)) w.heap.size x ∧ BoxF ((w.alloc (.cells x.toArray T)).alloc (.cells y.toArray U)) (w.heap.size + 1) y ∧ Below w.heap.size w ((w.alloc (.cells x.toArray T)).alloc (.cells y.toArray U)) := by
  have h1 := boxF_new w x T
  have h2 := boxF_new (w.alloc (.cells x.toArray T)) y U
  rw [World.size_alloc] at h2
  exact ⟨h1.up ((Below.refl _ _).alloc (Nat.le_refl _) _), h2, ((Below.refl _ _).alloc (Nat.le_refl _) _).alloc (by simp) _⟩
end Go.Proofs.Ytlgmmibncoedgaa
