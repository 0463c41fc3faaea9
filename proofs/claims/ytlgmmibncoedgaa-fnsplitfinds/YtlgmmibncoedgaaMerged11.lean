/-
  Lists of rows of bytes: for reading and of one's own; the laws' helpers over them: compared, marked, held against their marks; the same of who listens.
-/
/-
  Three boxes of a call: two arguments and an answer.
-/
/-
  Bytes that come to who listens: what is heard, and what is left. The specification's SplitFeed.
-/
/-
  What is heard and what is lost when a stream ends; a row of rows put behind another.
-/
/-
  What is left of a stream waits, and may be listened to.
-/
import Derived.Test.YtlgmmibncoedgaaMerged9
import Derived.Test.YtlgmmibncoedgaaMerged5
import Derived.Test.YtlgmmibncoedgaaMerged7
import Derived.Test.YtlgmmibncoedgaaMerged3
import Derived.Test.YtlgmmibncoedgaaSplitWalkS
set_option linter.unusedVariables false
namespace Go.Proofs.Ytlgmmibncoedgaa
open Go.RowKit Go.Maps Go.Deep

def BssAt (w : World) (b off : Nat) (ns : List (List UInt8)) : Prop := ∀ i (h : i < ns.length), ∃ v, w.cell? ⟨b, off + i, none⟩ = some v ∧ ByRd w v ns[i]
def ByteSSRd (w : World) (v : Value) (ns : List (List UInt8)) : Prop := ∃ a c, v = .slice a ns.length c ∧ (ns = [] ∨ ∃ b off, a = some ⟨b, off, none⟩ ∧ b < w.heap.size ∧ BssAt w b off ns)
theorem BssAt.up {w w' : World} {b off : Nat} {ns : List (List UInt8)} (h : BssAt w b off ns) (hb : b < w.heap.size) (hB : Below w.heap.size w w') : BssAt w' b off ns := fun i hi => by
  obtain ⟨v, c, hv⟩ := h i hi
  exact ⟨v, (hB.cell (p := ⟨b, off + i, none⟩) hb).trans c, hv.up hB⟩
theorem ByteSSRd.up {w w' : World} {v : Value} {ns : List (List UInt8)} (h : ByteSSRd w v ns) (hb : Below w.heap.size w w') : ByteSSRd w' v ns := by
  obtain ⟨a, c, rfl, h⟩ := h
  rcases h with h | ⟨b, off, rfl, hl, h⟩
  · exact ⟨a, c, rfl, .inl h⟩
  · exact ⟨_, c, rfl, .inr ⟨b, off, rfl, Nat.lt_of_lt_of_le hl hb.size, h.up hl hb⟩⟩
theorem ByteSSRd.form {w : World} {v : Value} {ns : List (List UInt8)} (h : ByteSSRd w v ns) : ∃ a n c, v = .slice a n c := by
  obtain ⟨a, c, rfl, h⟩ := h
  exact ⟨a, _, c, rfl⟩
structure BssOwn (S : List Nat) (w : World) (b off n : Nat) (f : Nat → List UInt8) (G : Nat → List Nat) (vs : Nat → Value) : Prop where
  mem : b ∈ S
  sub : ∀ i, i < n → ∀ k ∈ G i, k ∈ S
  apart : ∀ i j, i < n → j < n → i ≠ j → ∀ k ∈ G i, k ∉ G j
  off' : ∀ i, i < n → b ∉ G i
  cell : ∀ i, i < n → w.cell? ⟨b, off + i, none⟩ = some (vs i)
  own : ∀ i, i < n → ByOwn (G i) w (vs i) (f i)
def ByteSSOwn (S : List Nat) (w : World) (v : Value) (ns : List (List UInt8)) : Prop :=
  ∃ a c, v = .slice a ns.length c ∧ (∀ k ∈ S, k < w.heap.size) ∧ (ns = [] ∨ ∃ b off G vs, a = some ⟨b, off, none⟩ ∧ BssOwn S w b off ns.length (fun i => ns.getD i []) G vs)
theorem getD_at (ns : List (List UInt8)) (i : Nat) (h : i < ns.length) : ns.getD i [] = ns[i] := by simp [h]
theorem BssOwn.turn {S S' : List Nat} {w w' : World} {b off n : Nat} {f : Nat → List UInt8} {G : Nat → List Nat} {vs : Nat → Value} (h : BssOwn S w b off n f G vs) (hl : ∀ k ∈ S, k < w.heap.size) (ht : Turn S' w w') (hS : ∀ k ∈ S, k ∉ S') : BssOwn S w' b off n f G vs :=
  ⟨h.mem, h.sub, h.apart, h.off', fun i hi => (ht.cell (hl b h.mem) (hS b h.mem)).trans (h.cell i hi), fun i hi => (h.own i hi).turn ht (fun k hk => hS k (h.sub i hi k hk))⟩
theorem ByteSSOwn.rd {S : List Nat} {w : World} {v : Value} {ns : List (List UInt8)} (h : ByteSSOwn S w v ns) : ByteSSRd w v ns := by
  obtain ⟨a, c, rfl, hl, h⟩ := h
  rcases h with h | ⟨b, off, G, vs, rfl, h⟩
  · exact ⟨a, c, rfl, .inl h⟩
  · refine ⟨_, c, rfl, .inr ⟨b, off, rfl, hl b h.mem, fun i hi => ⟨vs i, h.cell i hi, ?_⟩⟩⟩
    have := (h.own i hi).rd
    rwa [getD_at ns i hi] at this
theorem ByteSSOwn.lt {S : List Nat} {w : World} {v : Value} {ns : List (List UInt8)} (h : ByteSSOwn S w v ns) : ∀ k ∈ S, k < w.heap.size := by
  obtain ⟨a, c, rfl, hl, h⟩ := h
  exact hl
theorem ByteSSOwn.turn {S S' : List Nat} {w w' : World} {v : Value} {ns : List (List UInt8)} (h : ByteSSOwn S w v ns) (ht : Turn S' w w') (hS : ∀ k ∈ S, k ∉ S') : ByteSSOwn S w' v ns := by
  obtain ⟨a, c, rfl, hl, h⟩ := h
  refine ⟨a, c, rfl, fun k hk => Nat.lt_of_lt_of_le (hl k hk) ht.size, ?_⟩
  rcases h with h | ⟨b, off, G, vs, rfl, h⟩
  · exact .inl h
  · exact .inr ⟨b, off, G, vs, rfl, h.turn hl ht hS⟩
theorem ByteSSOwn.up {S : List Nat} {w w' : World} {v : Value} {ns : List (List UInt8)} (h : ByteSSOwn S w v ns) (hb : Below w.heap.size w w') : ByteSSOwn S w' v ns := h.turn (Turn.of_below (S := []) hb) (by simp)
def SmallByteSS (ns : List (List UInt8)) : Prop := ns.length ≤ 10000 ∧ ∀ x ∈ ns, x.length ≤ 260
def sumTo (ns : List (List UInt8)) (j : Nat) : Nat := ((ns.take j).map List.length).sum
def nByteSS (ns : List (List UInt8)) : Nat := sumTo ns ns.length
theorem sumTo_succ (ns : List (List UInt8)) (j : Nat) (h : j < ns.length) : sumTo ns (j + 1) = sumTo ns j + ns[j].length := by
  unfold sumTo
  rw [List.take_succ_eq_append_getElem h, List.map_append, List.sum_append]
  simp only [List.map_cons, List.map_nil, List.sum_cons, List.sum_nil, Nat.add_zero]
theorem sumTo_le {ns : List (List UInt8)} (h : SmallByteSS ns) : ∀ j, j ≤ ns.length → sumTo ns j ≤ j * 260 := by
  intro j
  induction j with
  | zero => intro _; simp [sumTo]
  | succ j ih =>
    intro hj
    have := ih (by omega)
    have h1 := h.2 ns[j] (List.getElem_mem (by omega))
    rw [sumTo_succ ns j (by omega)]
    omega
theorem nByteSS_le {ns : List (List UInt8)} (h : SmallByteSS ns) : nByteSS ns ≤ 100000000 := by
  have := sumTo_le h ns.length (Nat.le_refl _)
  have := h.1
  unfold nByteSS
  omega
end Go.Proofs.Ytlgmmibncoedgaa

set_option linter.unusedVariables false
namespace Go.Proofs.Ytlgmmibncoedgaa
open Go.RowKit Go.Maps

theorem boxes3 (w : World) (A B C : List Value) (TA TB TC : TypeId) :
    BoxF (((w.alloc (.cells A.toArray TA)).alloc (.cells B.toArray TB)).alloc (.cells C.toArray TC)) w.heap.size A ∧ BoxF (((w.alloc (.cells A.toArray TA)).alloc (.cells B.toArray TB)).alloc (.cells C.toArray TC)) (w.heap.size + 1) B ∧ BoxF (((w.alloc (.cells A.toArray TA)).alloc (.cells B.toArray TB)).alloc (.cells C.toArray TC)) (w.heap.size + 2) C ∧ Below w.heap.size w (((w.alloc (.cells A.toArray TA)).alloc (.cells B.toArray TB)).alloc (.cells C.toArray TC)) ∧ (((w.alloc (.cells A.toArray TA)).alloc (.cells B.toArray TB)).alloc (.cells C.toArray TC)).heap.size = w.heap.size + 3 := by
  have a1 := boxF_new w A TA
  have b1 := (Below.refl w.heap.size w).alloc (Nat.le_refl _) (.cells A.toArray TA)
  have z1 : (w.alloc (.cells A.toArray TA)).heap.size = w.heap.size + 1 := by simp
  generalize w.alloc (.cells A.toArray TA) = w1 at *
  have a2 := boxF_new w1 B TB
  have u2 := (Below.refl w1.heap.size w1).alloc (Nat.le_refl _) (.cells B.toArray TB)
  have z2 : (w1.alloc (.cells B.toArray TB)).heap.size = w1.heap.size + 1 := by simp
  generalize w1.alloc (.cells B.toArray TB) = w2 at *
  have a3 := boxF_new w2 C TC
  have u3 := (Below.refl w2.heap.size w2).alloc (Nat.le_refl _) (.cells C.toArray TC)
  have z3 : (w2.alloc (.cells C.toArray TC)).heap.size = w2.heap.size + 1 := by simp
  generalize w2.alloc (.cells C.toArray TC) = w3 at *
  refine ⟨(a1.up u2).up u3, ?_, ?_, (b1.trans (u2.mono (by omega))).trans (u3.mono (by omega)), by omega⟩
  · rw [← z1]; exact a2.up u3
  · rw [show w.heap.size + 2 = w2.heap.size by omega]; exact a3
end Go.Proofs.Ytlgmmibncoedgaa

set_option linter.unusedVariables false
namespace Go.Proofs.Ytlgmmibncoedgaa
open Go.RowKit Go.Maps Go.Deep

def feedB (d : SplitV) (bs : List UInt8) : Bool := splitOkB d && decide (bs.length ≤ 4000) && decide (d.lost ≤ 9223372036854775807 - (bs.length : Int) - (d.buf.length : Int))
def feedS (d : SplitV) (bs : List UInt8) : SplitV := if feedB d bs then ⟨(walkW (d.buf ++ bs)).2.1, d.lost + ((walkW (d.buf ++ bs)).2.2 : Int)⟩ else ⟨[], 0⟩
def feedH (d : SplitV) (bs : List UInt8) : List (List UInt8) := if feedB d bs then (walkW (d.buf ++ bs)).1 else []
theorem ok_len {d : SplitV} (h : splitOkB d = true) : d.buf.length ≤ 270 ∧ 0 ≤ d.lost := by
  simp only [splitOkB, Bool.and_eq_true, decide_eq_true_eq] at h
  omega
theorem feed_yes {d : SplitV} {bs : List UInt8} (h : feedB d bs = true) : splitOkB d = true ∧ d.buf.length ≤ 270 ∧ 0 ≤ d.lost ∧ bs.length ≤ 4000 ∧ d.lost ≤ 9223372036854775807 - (bs.length : Int) - (d.buf.length : Int) := by
  simp only [feedB, Bool.and_eq_true, decide_eq_true_eq] at h
  have := ok_len h.1.1
  exact ⟨h.1.1, this.1, this.2, h.1.2, h.2⟩
theorem small_feedS (d : SplitV) (bs : List UInt8) : SmallSplit (feedS d bs) := by
  unfold feedS SmallSplit
  split
  · rename_i h
    have h1 := feed_yes h
    have h2 := (walk_len (d.buf ++ bs)).1
    rw [List.length_append] at h2
    simp only
    omega
  · simp
theorem small_feedH (d : SplitV) (bs : List UInt8) : SmallByteSS (feedH d bs) := by
  unfold feedH
  split
  · rename_i h
    have h1 := feed_yes h
    obtain ⟨h2, h3⟩ := walk_len (d.buf ++ bs)
    rw [List.length_append] at h2
    exact ⟨by omega, h3⟩
  · exact ⟨by simp, by simp⟩
/-- a row of rows of one's own -/
theorem bss_own {B : Nat} {w : World} {v : Value} {vs : List Value} {ns : List (List UInt8)} (r : BvRow B w v vs) (h : BsIs B w vs ns) : ∃ Q, ByteSSOwn Q w v ns ∧ ∀ k ∈ Q, B ≤ k := by
  have hl := h.len
  have hty := r.typed
  have hge := r.ge
  obtain ⟨a, c, hv⟩ := r.form
  rcases Nat.eq_zero_or_pos vs.length with h0 | h0
  · have e : ns = [] := List.eq_nil_of_length_eq_zero (by omega)
    subst e
    subst hv
    exact ⟨[], ⟨a, c, by rw [h0]; rfl, by simp, .inl rfl⟩, by simp⟩
  · have hh : w.ownsRow B 22 1 v vs.length vs := r
    rcases r.2 with ⟨e, h00⟩ | ⟨g, cap, cur, e, hB, hg, _⟩
    · omega
    · subst e
      have hlt : g < w.heap.size := (Array.getElem?_eq_some_iff.1 hg).1
      have ex : ∀ i, ∃ S, i < vs.length → (ByOwn S w (vs.getD i (.bool false)) (ns.getD i []) ∧ ∀ k ∈ S, B ≤ k ∧ (vs.getD i (.bool false)).ownBlock = some k) := fun i => by
        by_cases hi : i < vs.length
        · obtain ⟨S, o1, o2, o3⟩ := (h.el i hi (by omega)).own
          refine ⟨S, fun _ => ?_⟩
          have e1 : vs.getD i (.bool false) = vs[i] := by simp [hi]
          rw [e1, getD_at ns i (by omega)]
          exact ⟨o1, fun k hk => ⟨o2 k hk, o3 k hk⟩⟩
        · exact ⟨[], fun h => absurd h hi⟩
      obtain ⟨G, hG⟩ := Classical.axiomOfChoice ex
      refine ⟨g :: (List.range vs.length).flatMap G, ⟨_, cap, by rw [hl], ?_, .inr ⟨g, 0, G, fun i => vs.getD i (.bool false), rfl, ?_⟩⟩, ?_⟩
      · intro k hk
        simp only [List.mem_cons, List.mem_flatMap, List.mem_range] at hk
        rcases hk with rfl | ⟨i, hi, hk⟩
        · exact hlt
        · exact (hG i hi).1.lt k hk
      · rw [← hl]
        refine ⟨by simp, fun i hi k hk => ?_, fun i j hi hj hij k hk hk' => ?_, fun i hi hm => ?_, fun i hi => ?_, fun i hi => (hG i hi).1⟩
        · simp only [List.mem_cons, List.mem_flatMap, List.mem_range]
          exact .inr ⟨i, hi, hk⟩
        · have q1 := ((hG i hi).2 k hk).2
          have q2 := ((hG j hj).2 k hk').2
          have e1 : vs.getD i (.bool false) = vs[i] := by simp [hi]
          have e2 : vs.getD j (.bool false) = vs[j] := by simp [hj]
          rw [e1] at q1
          rw [e2] at q2
          rcases Nat.lt_or_gt_of_ne hij with hlt | hlt
          · have := h.inc i j hi hj hlt k k q1 q2; omega
          · have := h.inc j i hj hi hlt k k q2 q1; omega
        · have q1 := ((hG i hi).2 g hm).2
          have e1 : vs.getD i (.bool false) = vs[i] := by simp [hi]
          rw [e1] at q1
          obtain ⟨c1, hc1⟩ := hty g (by simp [Value.ownBlock])
          obtain ⟨c2, hc2⟩ := (h.el i hi (by omega)).typed g q1
          exact two_types hc1 hc2
        · rw [Nat.zero_add, hh.cellAt _ (by omega)]
          simp [hi]
      · intro k hk
        simp only [List.mem_cons, List.mem_flatMap, List.mem_range] at hk
        rcases hk with rfl | ⟨i, hi, hk⟩
        · exact hB
        · exact ((hG i hi).2 k hk).1
theorem two33 {w : World} {g : Nat} {a b : Value} (h : BoxF w g [a, b]) : (w.cell? ⟨g, 0, none⟩ = some a ∧ w.cell? ⟨g, 1, none⟩ = some b) ∧ (w.frozen? ⟨g, 0, none⟩ = false ∧ w.frozen? ⟨g, 1, none⟩ = false) := ⟨⟨h.1.at 0 _ rfl, h.1.at 1 _ rfl⟩, h.2 0 (by simp), h.2 1 (by simp)⟩
def RetFeedS (d : SplitV) (bs : List UInt8) (w : World) (e : Ending) (w' : World) : Prop := ∃ v vr, e = .returned (.tuple #[v, vr, .bool (feedB d bs)]) ∧ Hid (SplitRd w' v (feedS d bs)) ∧ Hid (ByteSSRd w' vr (feedH d bs)) ∧ Below w.heap.size w w'
theorem retFeed_no {d : SplitV} {bs : List UInt8} {w w' : World} (h : feedB d bs = false) (b : Below w.heap.size w w') : RetFeedS d bs w (.returned (.tuple #[.agg #[.slice none 0 0, .int .i64 0], .slice none 0 0, .bool false])) w' :=
  ⟨_, _, by rw [h], hide (by unfold feedS; rw [h]; exact ⟨_, rfl, none, 0, rfl, .inl rfl, Nat.le_refl _⟩), hide (by unfold feedH; rw [h]; exact ⟨none, 0, rfl, .inl rfl⟩), b⟩
/-- the same, and what is left is a row of one's own -/
def RetFeedR (d : SplitV) (bs : List UInt8) (w : World) (e : Ending) (w' : World) : Prop := ∃ v0 vr, e = .returned (.tuple #[.agg #[v0, .int .i64 (feedS d bs).lost], vr, .bool (feedB d bs)]) ∧ Hid (ByRow w.heap.size w' v0 (feedS d bs).buf) ∧ Hid (ByteSSRd w' vr (feedH d bs)) ∧ Below w.heap.size w w'
theorem retFeedR_no {d : SplitV} {bs : List UInt8} {w w' : World} (h : feedB d bs = false) (b : Below w.heap.size w w') : RetFeedR d bs w (.returned (.tuple #[.agg #[.slice none 0 0, .int .i64 0], .slice none 0 0, .bool false])) w' :=
  ⟨_, _, by unfold feedS; rw [h]; rfl, hide (by unfold feedS; rw [h]; exact ByRow.nil _ _), hide (by unfold feedH; rw [h]; exact ⟨none, 0, rfl, .inl rfl⟩), b⟩
theorem RetFeedR.s {d : SplitV} {bs : List UInt8} {w w' : World} {e : Ending} (h : RetFeedR d bs w e w') : RetFeedS d bs w e w' := by
  obtain ⟨v0, vr, rfl, h1, h2, h3⟩ := h
  exact ⟨_, _, rfl, hide ⟨v0, rfl, (unhide h1).rd⟩, h2, h3⟩
/-- the same, and what is heard is a row of rows of one's own -/
def RetFeedQ (d : SplitV) (bs : List UInt8) (w : World) (e : Ending) (w' : World) : Prop := ∃ v0 vr vs, e = .returned (.tuple #[.agg #[v0, .int .i64 (feedS d bs).lost], vr, .bool (feedB d bs)]) ∧ Hid (ByRow w.heap.size w' v0 (feedS d bs).buf) ∧ Hid (BvRow w.heap.size w' vr vs) ∧ Hid (BsIs w.heap.size w' vs (feedH d bs)) ∧ Below w.heap.size w w'
theorem retFeedQ_no {d : SplitV} {bs : List UInt8} {w w' : World} (h : feedB d bs = false) (b : Below w.heap.size w w') : RetFeedQ d bs w (.returned (.tuple #[.agg #[.slice none 0 0, .int .i64 0], .slice none 0 0, .bool false])) w' :=
  ⟨_, _, [], by unfold feedS; rw [h]; rfl, hide (by unfold feedS; rw [h]; exact ByRow.nil _ _), hide (BvRow.nil _ _), hide (by unfold feedH; rw [h]; exact BsIs.nil _ _), b⟩
theorem RetFeedQ.r {d : SplitV} {bs : List UInt8} {w w' : World} {e : Ending} (h : RetFeedQ d bs w e w') : RetFeedR d bs w e w' := by
  obtain ⟨v0, vr, vs, rfl, h1, h2, h3, h4⟩ := h
  obtain ⟨Q, OW, _⟩ := bss_own (unhide h2) (unhide h3)
  exact ⟨v0, vr, rfl, h1, hide OW.rd, h4⟩
theorem box2pair (w : World) (x y : List Value) (T U : TypeId) : BoxF ((w.alloc (.cells x.toArray T)).alloc (.cells y.toArray U)) w.heap.size x ∧ BoxF ((w.alloc (.cells x.toArray T)).alloc (.cells y.toArray U)) (w.heap.size + 1) y ∧ Below w.heap.size w ((w.alloc (.cells x.toArray T)).alloc (.cells y.toArray U)) := by
  have h1 := boxF_new w x T
  have h2 := boxF_new (w.alloc (.cells x.toArray T)) y U
  rw [World.size_alloc] at h2
  exact ⟨h1.up ((Below.refl _ _).alloc (Nat.le_refl _) _), h2, ((Below.refl _ _).alloc (Nat.le_refl _) _).alloc (by simp) _⟩
end Go.Proofs.Ytlgmmibncoedgaa

set_option linter.unusedVariables false
namespace Go.Proofs.Ytlgmmibncoedgaa
open Go.RowKit Go.Maps Go.Deep

/-- more rows of bytes, made behind all that there was -/
theorem BsIs.append {B : Nat} {w w' : World} {vs us : List Value} {ns ms : List (List UInt8)} (h : BsIs B w vs ns) (hk : KeepU w w') (hB : B ≤ w.heap.size) (h2 : BsIs w.heap.size w' us ms) : BsIs B w' (vs ++ us) (ns ++ ms) := by
  have hl := h.len
  have hl2 := h2.len
  refine ⟨by simp [hl, hl2], fun i h1 h3 => ?_, fun i j hi hj hij k k' e1 e2 => ?_⟩
  · by_cases e : i < vs.length
    · have := (h.el i e (by omega)).keepU hk
      rw [List.getElem_append_left e, List.getElem_append_left (by omega)]
      exact this
    · rw [List.length_append] at h1 h3
      have := (h2.el (i - vs.length) (by omega) (by omega)).mono hB
      rw [List.getElem_append_right (by omega), List.getElem_append_right (by omega)]
      simpa only [hl] using this
  · rw [List.length_append] at hi hj
    by_cases e : j < vs.length
    · rw [List.getElem_append_left (by omega)] at e1
      rw [List.getElem_append_left e] at e2
      exact h.inc i j (by omega) e hij k k' e1 e2
    · rw [List.getElem_append_right (by omega)] at e2
      by_cases e' : i < vs.length
      · rw [List.getElem_append_left e'] at e1
        have q1 := (h.el i e' (by omega)).lt k e1
        have q2 := (h2.el (j - vs.length) (by omega) (by omega)).ge k' e2
        omega
      · rw [List.getElem_append_right (by omega)] at e1
        exact h2.inc _ _ (by omega) (by omega) (by omega) k k' e1 e2
def endB (d : SplitV) : Bool := splitOkB d && decide (d.lost ≤ 9223372036854775807 - (d.buf.length : Int))
def endH (d : SplitV) : List (List UInt8) := if endB d then (endW d.buf).1 else []
def endI (d : SplitV) : Int := if endB d then d.lost + ((endW d.buf).2 : Int) else 0
theorem small_endH (d : SplitV) : SmallByteSS (endH d) := by
  unfold endH
  split
  · rename_i h
    simp only [endB, Bool.and_eq_true, decide_eq_true_eq] at h
    have h1 := ok_len h.1
    obtain ⟨h2, h3⟩ := end_len d.buf _ (Nat.le_refl _)
    exact ⟨by omega, h3⟩
  · exact ⟨by simp, by simp⟩
theorem bvSpread_run (B B2 : Nat) (w : World) (v u : Value) (vs us : List Value) (ms : List (List UInt8)) (hv : BvRow B w v vs) (hu : BvRow B2 w u us) (hm : BsIs B2 w us ms) (hl : vs.length + us.length ≤ 1000000) (hB : B ≤ w.heap.size) (ty : TypeId) :
    ∃ a c w', (Builtin.append_ #[36, 36] ty #[v, u]).run Try.prog w = .ok (.slice a (vs.length + us.length) c) w' ∧ BvRow B w' (.slice a (vs.length + us.length) c) (vs ++ us) ∧ w.grownBy w' v.ownBlock := by
  obtain ⟨i0, hi, hz0, hz1, hz2⟩ := infoBv_parts infoBv
  obtain ⟨au, cu, hau⟩ := hu.form
  by_cases h0 : us = []
  · subst h0
    subst hau
    cases au with
    | none =>
      obtain ⟨a, c, rfl⟩ := hv.form
      exact ⟨a, c, w, run_append_none B _ ty _ i0 1 cu Try.underlying36 hi _ _ _ hv, by simpa using hv, grown_self _ _⟩
    | some ad =>
      obtain ⟨a, c, rfl⟩ := hv.form
      exact ⟨a, c, w, run_append_zero B _ ty _ i0 1 cu ad Try.underlying36 hi _ _ _ hv, by simpa using hv, grown_self _ _⟩
  · have hpos : 0 < us.length := List.length_pos_iff.2 h0
    have hh : w.ownsRow B2 22 1 u us.length us := hu
    rcases hu.2 with ⟨_, h00⟩ | ⟨g, cap, cur, e, hB', hg, _⟩
    · omega
    · subst e
      obtain ⟨g', cap', w', h1, h2, h3, _, _⟩ := run_append_lies (P := Try.prog) (w := w) 36 ty B 22 i0 _ 1 24 Try.underlying36 hi hz0 hz1 hz2 rfl (by decide) v vs.length vs hv ⟨g, 0, none⟩ us.length cap us (by simp) (fun j x hj => by
        have hj' : j < us.length := (List.getElem?_eq_some_iff.1 hj).1
        have := hh.cellAt j (by omega)
        rw [hj] at this
        by_cases hz : j = 0
        · subst hz; simpa [Addr.add] using this
        · simpa [Addr.add, hz] using this) (fun x hx => by
        obtain ⟨j, hj, rfl⟩ := List.getElem_of_mem hx
        obtain ⟨a, n, c, e⟩ := (hm.el j hj (by have := hm.len; omega)).rd.form
        rw [e]; rfl) hpos (by unfold maxLen; omega) (by omega) hB w.heap.size rfl
      refine ⟨some ⟨g', 0, none⟩, cap', w', h1, ?_, h3⟩
      unfold BvRow
      rw [List.length_append]
      exact h2
theorem wpList_bvSpread {w : World} {ops : Array Oper} {rest : List Oper} {o : Oper} {a : Act} {Q : Exit → Act → World → Prop} (hgd : o.guard = none) (s x : Operand)
    (ho : o.op = .call { callee := .builtin .append, args := #[s, x], argTypes := #[36, 36] }) (B B2 : Nat) (v u : Value) (vs us : List Value) (ms : List (List UInt8)) (hs : a.eval s = v) (hx : a.eval x = u)
    (hv : BvRow B w v vs) (hu : BvRow B2 w u us) (hm : BsIs B2 w us ms) (hl : vs.length + us.length ≤ 1000000) (hB : B ≤ w.heap.size)
    (h : ∀ a' n c w', BvRow B w' (.slice a' n c) (vs ++ us) → w.grownBy w' v.ownBlock → wpList Try.prog ops Q rest (a.put o.dst (.slice a' n c)) w') : wpList Try.prog ops Q (o :: rest) a w := by
  obtain ⟨a', c, w', h1, h2, h3⟩ := bvSpread_run B B2 w v u vs us ms hv hu hm hl hB o.type
  refine wpList_plain hgd fun K hK => ?_
  unfold Oper.wp execOp
  simp only [ho, resolve, invoke, builtin, Sem.run_bind, Sem.run_pure, Result.andThen_ok, List.map_toArray, List.map_cons, List.map_nil, hs, hx, h1]
  exact hK _ _ (h a' _ c w' h2 h3)
def RetEndS (d : SplitV) (w : World) (e : Ending) (w' : World) : Prop := ∃ vr, e = .returned (.tuple #[vr, .int .i64 (endI d)]) ∧ Hid (ByteSSRd w' vr (endH d)) ∧ Below w.heap.size w w'
theorem retEnd_no {d : SplitV} {w w' : World} (h : endB d = false) (b : Below w.heap.size w w') : RetEndS d w (.returned (.tuple #[.slice none 0 0, .int .i64 0])) w' :=
  ⟨_, by unfold endI; rw [h]; rfl, hide (by unfold endH; rw [h]; exact ⟨none, 0, rfl, .inl rfl⟩), b⟩
def RetEndI (d : SplitV) (w : World) (e : Ending) (w' : World) : Prop := ∃ vr Q, e = .returned (.tuple #[vr, .int .i64 (endI d)]) ∧ Hid (ByteSSOwn Q w' vr (endH d)) ∧ Hid (∀ k ∈ Q, w.heap.size ≤ k) ∧ Below w.heap.size w w'
theorem retEndI_no {d : SplitV} {w w' : World} (h : endB d = false) (b : Below w.heap.size w w') : RetEndI d w (.returned (.tuple #[.slice none 0 0, .int .i64 0])) w' :=
  ⟨_, [], by unfold endI; rw [h]; rfl, hide (by unfold endH; rw [h]; exact ⟨none, 0, rfl, by simp, .inl rfl⟩), hide (by simp), b⟩
end Go.Proofs.Ytlgmmibncoedgaa

set_option linter.unusedVariables false
namespace Go.Proofs.Ytlgmmibncoedgaa
open Go.RowKit Go.Maps Go.Deep

theorem walk_waits (bs : List UInt8) : ∀ n, bs.length ≤ n → waitB (walkF n bs).2.1 = true := by
  intro n
  induction n generalizing bs with
  | zero =>
    intro h
    have e : bs = [] := List.eq_nil_of_length_eq_zero (by omega)
    subst e
    exact wait_nil
  | succ n ih =>
    intro h
    unfold walkF
    cases hw : waitB bs
    · have hp := wait_pos hw
      simp only [Bool.false_eq_true, if_false]
      by_cases hn : nextI bs = 1
      · obtain ⟨k, e1, e2, e3, e4⟩ := next_one hn
        simp only [hn, if_true, e1, Int.toNat_natCast]
        exact ih (bs.drop k) (by simp; omega)
      · simp only [hn, if_false]
        exact ih (bs.drop 1) (by simp; omega)
    · simp [hw]
theorem wait_short {bs : List UInt8} (h : waitB bs = true) : bs.length ≤ 270 := by
  have h' : frameSz bs = 0 ∨ (bs.length : Int) < frameSz bs := by simpa [waitB] using h
  rcases h' with h' | h'
  · unfold frameSz at h'
    split at h'
    · omega
    · split at h'
      · omega
      · split at h' <;> omega
  · rcases sz_cases bs with e | e | e <;> omega
theorem feed_ends {ys : List UInt8} (h : feedB ⟨[], 0⟩ ys = true) : endB (feedS ⟨[], 0⟩ ys) = true ∧ (feedS ⟨[], 0⟩ ys).lost + (sumB (feedH ⟨[], 0⟩ ys) : Int) + ((feedS ⟨[], 0⟩ ys).buf.length : Int) = (ys.length : Int) := by
  have h1 := walk_waits ys _ (Nat.le_refl _)
  have h2 := wait_short h1
  have h3 := walk_sum ys
  have h4 := (feed_yes h).2.2.2.1
  have e : feedS ⟨[], 0⟩ ys = ⟨(walkW ys).2.1, ((walkW ys).2.2 : Int)⟩ := by
    unfold feedS
    rw [h]
    simp
  have e2 : feedH ⟨[], 0⟩ ys = (walkW ys).1 := by
    unfold feedH
    rw [h]
    simp
  rw [e, e2]
  refine ⟨?_, by simp only; omega⟩
  have h1' : waitB (walkW ys).2.1 = true := h1
  have h2' : (walkW ys).2.1.length ≤ 270 := h2
  simp only [endB, splitOkB, h1', Bool.and_eq_true, decide_eq_true_eq, and_true]
  exact ⟨⟨by omega, h2'⟩, by omega⟩
theorem end_all {ys : List UInt8} (h : feedB ⟨[], 0⟩ ys = true) : endI (feedS ⟨[], 0⟩ ys) + (sumB (feedH ⟨[], 0⟩ ys) : Int) + (sumB (endH (feedS ⟨[], 0⟩ ys)) : Int) = (ys.length : Int) := by
  obtain ⟨h1, h2⟩ := feed_ends h
  have h3 := end_sum (feedS ⟨[], 0⟩ ys).buf _ (Nat.le_refl _)
  unfold endI endH
  rw [h1]
  simp only [if_true]
  omega
theorem endI_pos (ys : List UInt8) : 0 ≤ endI (feedS ⟨[], 0⟩ ys) := by
  unfold endI
  split
  · unfold feedS
    split <;> simp <;> omega
  · omega
theorem sumB_take (fh : List (List UInt8)) (k : Nat) (h : k < fh.length) : sumB (fh.take (k + 1)) = sumB (fh.take k) + fh[k].length + 5 := by
  rw [List.take_add_one, List.getElem?_eq_getElem h, sumB_append]
  simp [sumB]
  omega
theorem sumB_le (fh : List (List UInt8)) (k : Nat) : sumB (fh.take k) ≤ sumB fh := by
  have := sumB_append (fh.take k) (fh.drop k)
  rw [List.take_append_drop] at this
  omega
end Go.Proofs.Ytlgmmibncoedgaa
