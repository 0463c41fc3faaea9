/-
  Rows of stamps (each cell a list of marks) that one may append to.
-/
/-
  The program's agreesWithAll: whether a stamp agrees with each of some others.
-/
/-
  Lists of items for reading: each a number and a list of marks; how much they hold.
-/
import Derived.Test.YtpiapgjiaeddjaaMarkRowsOwn
import Derived.Deep.AppendLies
import Derived.Test.YtpiapgjiaeddjaaMerged10
import Derived.Test.YtpiapgjiaeddjaaAgreeS
import Derived.Handy
set_option linter.unusedVariables false
namespace Go.Proofs.Ytpiapgjiaeddjaa
open Go.RowKit Go.Maps Go.Deep

def SlRow (B : Nat) (w : World) (v : Value) (vs : List Value) : Prop := w.ownsRow B 53 1 v vs.length vs
theorem SlRow.nil (B : Nat) (w : World) : SlRow B w (.slice none 0 0) [] := ⟨rfl, .inl ⟨rfl, rfl⟩⟩
theorem SlRow.slice {B : Nat} {w : World} {v : Value} {vs : List Value} (h : SlRow B w v vs) : (v = .slice none 0 0 ∧ vs = []) ∨ ∃ g c, v = .slice (some ⟨g, 0, none⟩) vs.length c ∧ vs.length ≤ c ∧ g < w.heap.size ∧ ∀ i (h : i < vs.length), w.cell? ⟨g, i, none⟩ = some vs[i] := by
  have hh : w.ownsRow B 53 1 v vs.length vs := h
  rcases h with ⟨_, ⟨rfl, h0⟩ | ⟨g, cap, cur, rfl, hB, hg, hnc, _⟩⟩
  · exact .inl ⟨rfl, List.eq_nil_of_length_eq_zero h0⟩
  · refine .inr ⟨g, cap, rfl, hnc, (Array.getElem?_eq_some_iff.1 hg).1, fun i hi => ?_⟩
    rw [hh.cellAt _ (by omega)]
    exact List.getElem?_eq_getElem hi
theorem SlRow.ge {B : Nat} {w : World} {v : Value} {vs : List Value} (h : SlRow B w v vs) : ∀ g, v.ownBlock = some g → B ≤ g := by
  intro g hg
  rcases h.2 with ⟨rfl, _⟩ | ⟨g', cap, cur, rfl, hB, _⟩
  · simp [Value.ownBlock] at hg
  · simp [Value.ownBlock] at hg; omega
theorem SlRow.lt {B : Nat} {w : World} {v : Value} {vs : List Value} (h : SlRow B w v vs) : ∀ g, v.ownBlock = some g → g < w.heap.size := by
  intro g hg
  rcases h.2 with ⟨rfl, _⟩ | ⟨g', cap, cur, rfl, hB, hh, _⟩
  · simp [Value.ownBlock] at hg
  · simp [Value.ownBlock] at hg
    subst hg
    exact (Array.getElem?_eq_some_iff.1 hh).1
theorem SlRow.keep {B : Nat} {w w' : World} {v : Value} {vs : List Value} (h : SlRow B w v vs) (hk : ∀ g, v.ownBlock = some g → w'.heap[g]? = w.heap[g]?) : SlRow B w' v vs := by
  rcases h with ⟨hl, h | ⟨g, cap, cur, rfl, hB, hg, hr⟩⟩
  · exact ⟨hl, .inl h⟩
  · exact ⟨hl, .inr ⟨g, cap, cur, rfl, hB, (hk g rfl).trans hg, hr⟩⟩
theorem SlRow.up {B : Nat} {w w' : World} {v : Value} {vs : List Value} (h : SlRow B w v vs) (hb : Below w.heap.size w w') : SlRow B w' v vs := h.keep (fun g hg => hb.block g (h.lt g hg))
theorem infoSl : (Try.prog.info? 53).map (fun i => (i.zero, i.size, i.bytes)) = some (some (.slice none 0 0), 1, 24) := by kernel_rfl
theorem news_sl {w : World} {g : Nat} {x : Value} (c0 : w.cell? ⟨g, 0, none⟩ = some x) : ∀ j u, ([x] : List Value)[j]? = some u → w.cell? ((⟨g, 0, none⟩ : Addr).add j) = some u := by
  intro j u hj
  match j, hj with
  | 0, hj => simp at hj; subst hj; simpa [Addr.add] using c0
end Go.Proofs.Ytpiapgjiaeddjaa

set_option linter.unusedVariables false
namespace Go.Proofs.Ytpiapgjiaeddjaa
open Go.RowKit Go.Maps Go.Deep

def agAll (s : List MarkV) (ss : List (List MarkV)) : Bool := ss.all (agreeOut s)
theorem agAll_no {s : List MarkV} {ss : List (List MarkV)} {k : Nat} (hk : k < ss.length) (h : agreeOut s ss[k] = false) : agAll s ss = false := by
  unfold agAll
  rw [List.all_eq_false]
  exact ⟨ss[k], List.getElem_mem hk, by simp [h]⟩
theorem agAll_yes {s : List MarkV} {ss : List (List MarkV)} (h : ∀ k (hk : k < ss.length), agreeOut s ss[k] = true) : agAll s ss = true := by
  unfold agAll
  rw [List.all_eq_true]
  intro x hx
  obtain ⟨k, hk, rfl⟩ := List.getElem_of_mem hx
  exact h k hk
/-- the stamps that a row's cells have -/
def StsAt (w : World) (g : Nat) (ss : List (List MarkV)) : Prop := ∀ i (h : i < ss.length), ∃ a n c, w.cell? ⟨g, i, none⟩ = some (.slice a n c) ∧ MarkSRd w (.slice a n c) ss[i]
theorem StsAt.up {w w' : World} {g : Nat} {ss : List (List MarkV)} (h : StsAt w g ss) (hg : g < w.heap.size) (hw : Below w.heap.size w w') : StsAt w' g ss := by
  intro i hi
  obtain ⟨a, n, c, h1, h2⟩ := h i hi
  exact ⟨a, n, c, (hw.cell (by exact hg)).trans h1, h2.up hw⟩
end Go.Proofs.Ytpiapgjiaeddjaa

set_option linter.unusedVariables false
namespace Go.Proofs.Ytpiapgjiaeddjaa
open Go.RowKit Go.Maps Go.Deep

structure ItemV where
  a0 : Int
  a1 : List MarkV
/-- they lie one behind the other, from a place of a block on; each one's marks may be read -/
def ItemAt (w : World) (b off : Nat) (ns : List ItemV) : Prop :=
  ∀ i (h : i < ns.length), w.cell? ⟨b, off + i * 2, none⟩ = some (.int .i64 ns[i].a0) ∧ ∃ v, w.cell? ⟨b, off + i * 2 + 1, none⟩ = some v ∧ MarkSRd w v ns[i].a1
def ItemFit (x : ItemV) : Prop := (-9223372036854775808 ≤ x.a0 ∧ x.a0 ≤ 9223372036854775807) ∧ MarkSFit x.a1
def SmallItem (x : ItemV) : Prop := (-9223372036854775808 ≤ x.a0 ∧ x.a0 ≤ 9223372036854775807) ∧ SmallMarkS x.a1
def ItemIn (w : World) (a : Option Addr) (ns : List ItemV) : Prop :=
  ns = [] ∨ ∃ b off, a = some ⟨b, off, none⟩ ∧ b < w.heap.size ∧ ItemAt w b off ns
def ItemSRd (w : World) (v : Value) (ns : List ItemV) : Prop := ∃ a c, v = .slice a ns.length c ∧ ItemIn w a ns
def ItemSFit (ns : List ItemV) : Prop := ns.length ≤ maxLen ∧ ∀ x ∈ ns, ItemFit x
def SmallItemS (ns : List ItemV) : Prop := ns.length ≤ 1048576 ∧ ∀ x ∈ ns, SmallItem x
theorem ItemAt.up {w w' : World} {b off : Nat} {ns : List ItemV} (h : ItemAt w b off ns) (hb : b < w.heap.size) (hw : Below w.heap.size w w') : ItemAt w' b off ns := by
  intro i hi
  obtain ⟨c0, v, c1, hv⟩ := h i hi
  exact ⟨(hw.cell (by exact hb)).trans c0, v, (hw.cell (by exact hb)).trans c1, hv.up hw⟩
theorem ItemIn.up {w w' : World} {a : Option Addr} {ns : List ItemV} (h : ItemIn w a ns) (hw : Below w.heap.size w w') : ItemIn w' a ns := by
  rcases h with h | ⟨b, off, e, hb, h⟩
  · exact .inl h
  · exact .inr ⟨b, off, e, Nat.lt_of_lt_of_le hb hw.size, h.up hb hw⟩
theorem ItemSRd.up {w w' : World} {v : Value} {ns : List ItemV} (h : ItemSRd w v ns) (hw : Below w.heap.size w w') : ItemSRd w' v ns := by
  obtain ⟨a, c, e, h⟩ := h
  exact ⟨a, c, e, h.up hw⟩
theorem ItemSRd.form {w : World} {v : Value} {ns : List ItemV} (h : ItemSRd w v ns) : ∃ a n c, v = .slice a n c := by
  obtain ⟨a, c, e, _⟩ := h
  exact ⟨a, _, c, e⟩

set_option maxHeartbeats 1600000 in
theorem szItem_any (z0 : Int) (z1 : Value) (ms : List MarkV) (left : Int) (w : World) (hf : MarkSFit ms) (h : MarkSRd w z1 ms) (h0 : 0 ≤ left) (h1 : left ≤ 1048576) :
    Calls Try.prog 24 #[.agg #[.int .i64 z0, z1], .int .i64 left] w fun e w' => ∃ r : Int, e = .returned (.int .i64 r) ∧ r ≤ left ∧ Hid (0 ≤ r → SmallMarkS ms) ∧ Below w.heap.size w w' := by
  have HK := hide (fun W (b : Below w.heap.size w W) => szMarkS_kitL ms z1 left W h0 h1 hf (h.up b))
  obtain ⟨a, n, c, rfl⟩ := h.form
  clear h hf
  go_enter Try.func24, Try.ntmps24
  go_wp2_with fail
  refine (unhide HK _ (by go_grown)).mono ?_
  rintro e w1 ⟨q, rfl, hq, HQ, b1⟩
  have B1 := hide (Below.trans (by go_grown : Below w.heap.size w _) (b1.mono (by simp)))
  clear b1
  by_cases hneg : q < 0
  · go_wp2_with fail
    go_ret
    exact ⟨-1, rfl, by omega, hide (fun h => absurd h (by omega)), unhide B1⟩
  · go_wp2_with fail
    go_ret
    exact ⟨q, rfl, hq, HQ, unhide B1⟩

set_option maxHeartbeats 3200000 in
theorem szItemS_row (w : World) (b off cap : Nat) (ns : List ItemV) (left0 : Int) (hf0 : 0 ≤ left0) (hf1 : left0 ≤ 1048576) (hl : ns.length ≤ maxLen) (hc : ItemAt w b off ns) (hb : b < w.heap.size) (hs : ∀ x ∈ ns, ItemFit x) :
    Calls Try.prog 13 #[.slice (some ⟨b, off, none⟩) ns.length cap, .int .i64 left0] w fun e w' => ∃ r : Int, e = .returned (.int .i64 r) ∧ r ≤ left0 ∧ Hid (0 ≤ r → SmallItemS ns) ∧ Below w.heap.size w w' := by
  have HS := hide hs
  have HC := hide hc
  unfold maxLen at hl
  clear hs hc
  by_cases hlen : (ns.length : Int) ≤ left0
  · go_enter Try.func13, Try.ntmps13
    go_wp2_with fail
    go_loopw [1, 5] (fun l i wr => ∃ (k : Nat) (left : Int), k ≤ ns.length ∧ i = .int .i64 k ∧ l = .int .i64 left ∧ 0 ≤ left ∧ left ≤ left0 ∧ Hid (∀ j (h : j < ns.length), j < k → SmallMarkS ns[j].a1) ∧ Hid (Below w.heap.size w wr)) (fun _ i _ => ns.length - (intOf i).toNat)
    case atStart => exact ⟨0, _, Nat.zero_le _, rfl, rfl, by omega, by omega, hide (fun j _ hj => absurd hj (Nat.not_lt_zero _)), Below.refl _ _⟩
    case round =>
      obtain ⟨k, left, hk, rfl, rfl, hl0, hl1, HN, HB⟩ := hrel
      by_cases hlt : k < ns.length
      · obtain ⟨c0, v, c1, hv⟩ := (unhide HC).up hb (unhide HB) k hlt
        have HF := hide (unhide HS _ (List.getElem_mem hlt)).2
        have HV := hide (fun W (bW : Below wr.heap.size wr W) => szItem_any ns[k].a0 v ns[k].a1 left W (unhide HF) (hv.up bW) hl0 (by omega))
        obtain ⟨va, vn, vc, rfl⟩ := hv.form
        have HN2 := hide (show SmallMarkS ns[k].a1 → ∀ j (h : j < ns.length), j < k + 1 → SmallMarkS ns[j].a1 from fun hk' j h hj => by
          by_cases e : j = k
          · subst e; exact hk'
          · exact unhide HN j h (by omega))
        clear hv HF
        generalize ns[k].a0 = z0 at *
        generalize ns[k].a1 = ms at *
        go_wp2_with fail
        refine (unhide HV _ (by go_grown)).mono ?_
        rintro e w1 ⟨r, rfl, hr, HR, b1⟩
        have B1 := hide ((unhide HB).trans (b1.mono (unhide HB).size))
        clear b1 c0 c1
        by_cases hneg : r < 0
        · go_wp2_with fail
          go_ret
          exact ⟨-1, rfl, by omega, hide (fun h => absurd h (by omega)), unhide B1⟩
        · have HN3 := hide (unhide HN2 (unhide HR (by omega)))
          go_wp2_with fail
          go_roundw
          case rel => exact ⟨k + 1, r, by omega, by go_num, rfl, by omega, by omega, HN3, B1⟩
          case measure => simp [intOf]; omega
      · have HE := hide (show SmallItemS ns from ⟨by omega, fun x hx => by
          obtain ⟨j, hj, rfl⟩ := List.getElem_of_mem hx
          exact ⟨(unhide HS _ hx).1, unhide HN j hj (by omega)⟩⟩)
        go_wp2_with fail
        go_ret
        exact ⟨_, rfl, hl1, hide (fun _ => unhide HE), unhide HB⟩
  · go_enter Try.func13, Try.ntmps13
    go_wp2_with fail
    go_ret
    exact ⟨-1, rfl, by omega, hide (fun h => absurd h (by omega)), Below.refl _ _⟩
theorem szItemS_none (w : World) (a : Option Addr) (cap : Nat) (left0 : Int) (hf0 : 0 ≤ left0) (hf1 : left0 ≤ 1048576) :
    Calls Try.prog 13 #[.slice a 0 cap, .int .i64 left0] w fun e w' => e = .returned (.int .i64 left0) ∧ w' = w := by
  go_enter Try.func13, Try.ntmps13
  go_wp2_with fail
  refine wp_loop_rounds 1 ?_
  rw [rounds_succ]
  go_wp2_with fail
  go_ret
  exact ⟨rfl, rfl⟩
theorem szItemS_kitL (ns : List ItemV) (v : Value) (left : Int) (w : World) (h0 : 0 ≤ left) (h1 : left ≤ 1048576) (hf : ItemSFit ns) (h : ItemSRd w v ns) :
    Calls Try.prog 13 #[v, .int .i64 left] w fun e w' => ∃ q : Int, e = .returned (.int .i64 q) ∧ q ≤ left ∧ Hid (0 ≤ q → SmallItemS ns) ∧ Below w.heap.size w w' := by
  obtain ⟨a, c, rfl, h⟩ := h
  rcases h with rfl | ⟨b, off, rfl, hb, hc⟩
  · refine (szItemS_none w a c left h0 h1).mono ?_
    rintro e w' ⟨rfl, rfl⟩
    exact ⟨_, rfl, Int.le_refl _, hide (fun _ => ⟨by simp, fun _ h => by cases h⟩), Below.refl _ _⟩
  · exact szItemS_row w b off c ns left h0 h1 hf.1 hc hb hf.2
theorem szItemS_kit (ns : List ItemV) (v : Value) (w : World) (hf : ItemSFit ns) (h : ItemSRd w v ns) :
    Calls Try.prog 13 #[v, .int .i64 1048576] w fun e w' => ∃ q : Int, e = .returned (.int .i64 q) ∧ Hid (0 ≤ q → SmallItemS ns) ∧ Below w.heap.size w w' := by
  refine (szItemS_kitL ns v 1048576 w (by omega) (by omega) hf h).mono ?_
  rintro e w' ⟨q, he, _, hq, b⟩
  exact ⟨q, he, hq, b⟩
end Go.Proofs.Ytpiapgjiaeddjaa
