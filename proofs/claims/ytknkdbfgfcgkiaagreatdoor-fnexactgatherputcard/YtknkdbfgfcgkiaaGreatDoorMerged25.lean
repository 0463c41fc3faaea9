/-
  The program's copy of a gatherer.
-/
/-
  WindowFind of the specification.
-/
/-
  WindowFind of the program.
-/
/-
  One item for reading and of one's own, as an argument or an answer of a law.
-/
import Derived.Test.YtknkdbfgfcgkiaaGreatDoorMerged21
import Derived.Test.YtknkdbfgfcgkiaaGreatDoorMerged22
import Derived.Test.YtknkdbfgfcgkiaaGreatDoorMerged23
import Derived.Test.YtknkdbfgfcgkiaaGreatDoorMerged24
import Derived.Test.YtknkdbfgfcgkiaaGreatDoorMerged15
import Derived.Test.YtknkdbfgfcgkiaaGreatDoorMerged16
import Derived.Test.YtknkdbfgfcgkiaaGreatDoorMerged19
import Derived.Test.YtknkdbfgfcgkiaaGreatDoorMerged7
set_option linter.unusedVariables false
namespace Go.Proofs.YtknkdbfgfcgkiaaGreatDoor
open Go.RowKit Go.Maps Go.Deep

theorem TxRow.mono {B B' : Nat} {w : World} {v : Value} {ts : List ByteArray} (h : TxRow B w v ts) (hB : B' ≤ B) : TxRow B' w v ts :=
  ⟨h.1, h.2.imp id (fun ⟨g, cap, cur, e, hb, r⟩ => ⟨g, cap, cur, e, Nat.le_trans hB hb, r⟩)⟩
theorem WiRow.mono {B B' : Nat} {w : World} {v : Value} {vs : List Value} (h : WiRow B w v vs) (hB : B' ≤ B) : WiRow B' w v vs :=
  ⟨h.1, h.2.imp id (fun ⟨g, cap, cur, e, hb, r⟩ => ⟨g, cap, cur, e, Nat.le_trans hB hb, r⟩)⟩
theorem WinsR.mono {B B' : Nat} {w : World} {u : Value} {vs : List Value} {G : Nat → List Nat} {ws : List (List ItemV)} (h : WinsR B w u vs G ws) (hB : B' ≤ B) : WinsR B' w u vs G ws :=
  ⟨h.row.mono hB, h.len, h.each, h.apart, fun i hi k hk => ⟨Nat.le_trans hB (h.ge i hi k hk).1, (h.ge i hi k hk).2⟩⟩
theorem WinsR.at0 {B : Nat} {w : World} {u : Value} {vs : List Value} {G : Nat → List Nat} {ws : List (List ItemV)} (h : WinsR B w u vs G ws) (h1 : 1 ≤ ws.length) : ∃ gb gc, u = .slice (some ⟨gb, 0, none⟩) ws.length gc := by
  have hl := h.len
  rcases h.row.slice with ⟨_, e⟩ | ⟨g, c, e, _⟩
  · rw [e] at hl
    simp at hl
    omega
  · exact ⟨g, c, by rw [e, hl]⟩
theorem TxRow.room {B : Nat} {w : World} {a : Option Addr} {n c : Nat} {ts : List ByteArray} (h : TxRow B w (.slice a n c) ts) : n ≤ c := by
  rcases h.2 with ⟨e, h0⟩ | ⟨g, cap, cur, e, hB, hg, hnc, _⟩
  · simp only [Value.slice.injEq] at e
    omega
  · simp only [Value.slice.injEq] at e
    omega
/-- the parts of a gatherer of one's own -/
structure GParts (B : Nat) (w : World) (u0 u1 u2 : Value) (vs : List Value) (G : Nat → List Nat) (ins : List ByteArray) (wins : List (List ItemV)) (shown : List MarkV) : Prop where
  tx : TxRow B w u0 ins
  wi : WinsR B w u1 vs G wins
  mr : MkRow B w u2 shown
  f01 : ∀ k, u0.ownBlock = some k → u1.ownBlock ≠ some k ∧ ∀ i, i < wins.length → k ∉ G i
  f02 : ∀ k, u0.ownBlock = some k → u2.ownBlock ≠ some k
  f12 : ∀ k, u2.ownBlock = some k → u1.ownBlock ≠ some k ∧ ∀ i, i < wins.length → k ∉ G i
theorem GParts.turn {B : Nat} {S : List Nat} {w w' : World} {u0 u1 u2 : Value} {vs : List Value} {G : Nat → List Nat} {ins : List ByteArray} {wins : List (List ItemV)} {shown : List MarkV} (h : GParts B w u0 u1 u2 vs G ins wins shown) (t : Turn S w w') (hS : ∀ k ∈ S, k < B) : GParts B w' u0 u1 u2 vs G ins wins shown :=
  ⟨h.tx.keep (fun g hg => t.block g (h.tx.lt g hg) (fun hm => by have := h.tx.ge g hg; have := hS g hm; omega)), h.wi.turn t hS, h.mr.keep (fun g hg => t.block g (h.mr.lt g hg) (fun hm => by have := h.mr.ge g hg; have := hS g hm; omega)), h.f01, h.f02, h.f12⟩
theorem GParts.up {B : Nat} {w w' : World} {u0 u1 u2 : Value} {vs : List Value} {G : Nat → List Nat} {ins : List ByteArray} {wins : List (List ItemV)} {shown : List MarkV} (h : GParts B w u0 u1 u2 vs G ins wins shown) (hb : Below w.heap.size w w') : GParts B w' u0 u1 u2 vs G ins wins shown := h.turn (Turn.of_below (S := []) hb) (by simp)
theorem GParts.mono {B B' : Nat} {w : World} {u0 u1 u2 : Value} {vs : List Value} {G : Nat → List Nat} {ins : List ByteArray} {wins : List (List ItemV)} {shown : List MarkV} (h : GParts B w u0 u1 u2 vs G ins wins shown) (hB : B' ≤ B) : GParts B' w u0 u1 u2 vs G ins wins shown :=
  ⟨h.tx.mono hB, h.wi.mono hB, h.mr.mono hB, h.f01, h.f02, h.f12⟩
/-- the blocks of a row of windows -/
theorem WinsR.fullIn {B : Nat} {w : World} {u : Value} {vs : List Value} {G : Nat → List Nat} {ws : List (List ItemV)} (h : WinsR B w u vs G ws) : ∃ S, ItemSSFull S w u ws ∧ ∀ k ∈ S, u.ownBlock = some k ∨ ∃ i, i < ws.length ∧ k ∈ G i := by
  have hl := h.len
  rcases h.row.slice with ⟨rfl, h0⟩ | ⟨g, c, rfl, hc, hg, hcell⟩
  · have e : ws = [] := List.eq_nil_of_length_eq_zero (by rw [← hl, h0]; rfl)
    subst e
    exact ⟨[], ⟨none, 0, rfl, by simp, .inl rfl⟩, by simp⟩
  · refine ⟨g :: (List.range ws.length).flatMap G, ⟨_, c, by rw [hl], fun k hk => ?_, .inr ⟨g, 0, G, rfl, by simp, fun i hi k hk => ?_, h.apart, fun i hi => ⟨fun hm => (h.ge i hi g hm).2 rfl, vs[i], ?_, h.each i (by omega) hi⟩⟩⟩, fun k hk => ?_⟩
    · simp only [List.mem_cons, List.mem_flatMap, List.mem_range] at hk
      rcases hk with rfl | ⟨i, hi, hk⟩
      · exact hg
      · exact h.lt i hi k hk
    · simp only [List.mem_cons, List.mem_flatMap, List.mem_range]
      exact .inr ⟨i, hi, hk⟩
    · rw [Nat.zero_add]
      exact hcell i (by omega)
    · simp only [List.mem_cons, List.mem_flatMap, List.mem_range] at hk
      rcases hk with rfl | ⟨i, hi, hk⟩
      · exact .inl rfl
      · exact .inr ⟨i, hi, hk⟩
theorem GParts.full {B : Nat} {w : World} {u0 u1 u2 : Value} {vs : List Value} {G : Nat → List Nat} {ins : List ByteArray} {wins : List (List ItemV)} {shown : List MarkV} (h : GParts B w u0 u1 u2 vs G ins wins shown) :
    ∃ S, GatherFull S w (.agg #[u0, u1, u2]) ⟨ins, wins, shown⟩ ∧ (∀ k ∈ S, B ≤ k) ∧ ∀ k ∈ S, u0.ownBlock = some k ∨ (u1.ownBlock = some k ∨ ∃ i, i < wins.length ∧ k ∈ G i) ∨ u2.ownBlock = some k := by
  obtain ⟨S0, h0, g0, o0⟩ := h.tx.own
  obtain ⟨S1, h1, o1⟩ := h.wi.fullIn
  obtain ⟨S2, h2, g2, o2⟩ := h.mr.own
  refine ⟨S0 ++ (S1 ++ S2), ⟨_, _, _, S0, S1, S2, rfl, rfl, h0, h1, h2, fun k hk hm => ?_, fun k hk hm => ?_, fun k hk hm => ?_⟩, fun k hk => ?_, fun k hk => ?_⟩
  · rcases o1 k hm with e | ⟨i, hi, e⟩
    · exact (h.f01 k (o0 k hk)).1 e
    · exact (h.f01 k (o0 k hk)).2 i hi e
  · exact h.f02 k (o0 k hk) (o2 k hm)
  · rcases o1 k hk with e | ⟨i, hi, e⟩
    · exact (h.f12 k (o2 k hm)).1 e
    · exact (h.f12 k (o2 k hm)).2 i hi e
  · simp only [List.mem_append] at hk
    rcases hk with hk | hk | hk
    · exact g0 k hk
    · rcases o1 k hk with e | ⟨i, hi, e⟩
      · exact h.wi.row.ge k e
      · exact (h.wi.ge i hi k e).1
    · exact g2 k hk
  · simp only [List.mem_append] at hk
    rcases hk with hk | hk | hk
    · exact .inl (o0 k hk)
    · exact .inr (.inl (o1 k hk))
    · exact .inr (.inr (o2 k hk))
def RetGP (g : GatherV) (w : World) (e : Ending) (w' : World) : Prop :=
  ∃ (ua : Option Addr) (uc gb gc : Nat) (ma : Option Addr) (mc : Nat) (vs : List Value) (G : Nat → List Nat), e = .returned (.agg #[.slice ua g.ins.length uc, .slice (some ⟨gb, 0, none⟩) g.wins.length gc, .slice ma g.shown.length mc]) ∧
    Hid (GParts w.heap.size w' (.slice ua g.ins.length uc) (.slice (some ⟨gb, 0, none⟩) g.wins.length gc) (.slice ma g.shown.length mc) vs G g.ins g.wins g.shown) ∧ Below w.heap.size w w'
set_option maxRecDepth 20000 in
set_option maxHeartbeats 6400000 in
theorem ownGather_any (g : GatherV) (v : Value) (w : World) (hs : SmallGather g) (hgb : gatherB g = true) (h : GatherRd w v g) : Calls Tryz.prog 35 #[v] w fun e w' => RetGP g w e w' := by
  obtain ⟨hib, hlw, hwb, hsb⟩ : insB g.ins = true ∧ g.wins.length = g.ins.length ∧ winsB g.wins = true ∧ mstampB g.shown = true := by
    unfold gatherB at hgb
    simp only [Bool.and_eq_true, decide_eq_true_eq] at hgb
    exact hgb
  obtain ⟨h1, h6⟩ := winsB_len hwb
  obtain ⟨a0, n0, c0, a1, n1, c1, a2, n2, c2, rfl⟩ := h.form
  obtain ⟨hn0, hn1, hparts⟩ := gather_parts h
  have HT := hide (fun W (bW : Below w.heap.size w W) => ownTexts_any g.ins (.slice a0 n0 c0) W hs.1 (by have := (insB_facts hib).2; omega) (hparts W bW).1)
  have HW := hide (fun W (bW : Below w.heap.size w W) => ownWindows_any g.wins (.slice a1 n1 c1) W hs.2.1 hwb (hparts W bW).2.1)
  have HM := hide (fun W (bW : Below w.heap.size w W) => ownStamp_any g.shown (.slice a2 n2 c2) W hs.2.2 (by have := mstamp_len hsb; omega) (hparts W bW).2.2)
  have HLW := hide h1
  clear h hs hgb hib hlw hwb hsb hparts hn0 hn1 h1 h6
  obtain ⟨ins, wins, shown⟩ := g
  simp only at HT HW HM HLW
  have hF := boxesF2 w [.slice a0 n0 c0, .slice a1 n1 c1, .slice a2 n2 c2] [.slice none 0 0, .slice none 0 0, .slice none 0 0] 36 36
  obtain ⟨x0, x1, b0, hz⟩ := hF
  simp only [List.toArray] at x0 x1 b0 hz
  go_enter Tryz.func35, Tryz.ntmps35
  go_wp2_with fail
  generalize (w.alloc (.cells #[.slice a0 n0 c0, .slice a1 n1 c1, .slice a2 n2 c2] 36)).alloc (.cells #[.slice none 0 0, .slice none 0 0, .slice none 0 0] 36) = W at *
  have X0 := hide x0
  have X1 := hide x1
  have B0 := hide b0
  have HZ := hide hz
  clear x0 x1 b0 hz
  have KP := hide (show ∀ X : World, Below W.heap.size W X → X.cell? ⟨w.heap.size, 0, none⟩ = some (.slice a0 n0 c0) ∧ X.cell? ⟨w.heap.size, 1, none⟩ = some (.slice a1 n1 c1) ∧ X.cell? ⟨w.heap.size, 2, none⟩ = some (.slice a2 n2 c2) from fun X b => ((unhide X0).up b).three.1)
  have KS := hide (show ∀ (X : World) (v0 v1 v2 : Value), Below W.heap.size W X → (((X.setCell ⟨w.heap.size + 1, 0, none⟩ v0).setCell ⟨w.heap.size + 1, 1, none⟩ v1).setCell ⟨w.heap.size + 1, 2, none⟩ v2).cell? ⟨w.heap.size, 0, none⟩ = some (.slice a0 n0 c0) ∧ (((X.setCell ⟨w.heap.size + 1, 0, none⟩ v0).setCell ⟨w.heap.size + 1, 1, none⟩ v1).setCell ⟨w.heap.size + 1, 2, none⟩ v2).cell? ⟨w.heap.size, 1, none⟩ = some (.slice a1 n1 c1) ∧ (((X.setCell ⟨w.heap.size + 1, 0, none⟩ v0).setCell ⟨w.heap.size + 1, 1, none⟩ v1).setCell ⟨w.heap.size + 1, 2, none⟩ v2).cell? ⟨w.heap.size, 2, none⟩ = some (.slice a2 n2 c2) from fun X v0 v1 v2 b => (((((unhide X0).up b).far 0 v0 (by omega)).far 1 v1 (by omega)).far 2 v2 (by omega)).three.1)
  have BD := hide ((Below.refl W.heap.size W).drew)
  go_region_held3 (fun X => X.cell? ⟨w.heap.size, 0, none⟩ = some (.slice a0 n0 c0) ∧ X.cell? ⟨w.heap.size, 1, none⟩ = some (.slice a1 n1 c1) ∧ X.cell? ⟨w.heap.size, 2, none⟩ = some (.slice a2 n2 c2)) ((first | (refine unhide KP _ ?_; exact unhide (by assumption)) | (refine unhide KS _ _ _ _ ?_; exact unhide (by assumption))))
    (first
      | (go_at_call 73; refine (unhide HT _ ((unhide B0).trans ((unhide BD).mono (unhide B0).size))).mono ?_; rintro e w1 ⟨u1, rfl, R1, b1⟩; obtain ⟨ua, uc, rfl⟩ := (unhide R1).slice; have BB1 := hide ((unhide BD).trans (b1.mono (unhide BD).size)); clear b1)
      | (go_at_call 74; have _t := BB1; refine (unhide HW _ ((unhide B0).trans ((unhide BB1).mono (unhide B0).size))).mono ?_; rintro e w2 ⟨u2, vs, G, rfl, R2, b2⟩; obtain ⟨gb, gc, rfl⟩ := (unhide R2).at0 (unhide HLW); have R1b := hide ((unhide R1).up b2); have Z2 := hide b2.size; have BB2 := hide ((unhide BB1).trans (b2.mono (unhide BB1).size)); clear b2)
      | (go_at_call 75; have _t := BB2; refine (unhide HM _ ((unhide B0).trans ((unhide BB2).mono (unhide B0).size))).mono ?_; rintro e w3 ⟨u3, rfl, R3, b3⟩; obtain ⟨ma, mc, rfl⟩ := (unhide R3).slice; have R1c := hide ((unhide R1b).up b3); have R2c := hide ((unhide R2).up b3); have Z3 := hide b3.size; have BB3 := hide ((unhide BB2).trans (b3.mono (unhide BB2).size)); clear b3; obtain ⟨⟨q0, q1, q2⟩, f0, f1, f2⟩ := ((unhide X1).up (unhide BB3)).three))
  clear q0 q1 q2 f0 f1 f2
  have XB := hide (((((unhide X1).up (unhide BB3)).set 0 (.slice ua ins.length uc) (by simp)).set 1 (.slice (some ⟨gb, 0, none⟩) wins.length gc) (by simp)).set 2 (.slice ma shown.length mc) (by simp))
  simp only [List.set] at XB
  have TT := hide (show Turn [w.heap.size + 1] w3 (((w3.setCell ⟨w.heap.size + 1, 0, none⟩ (.slice ua ins.length uc)).setCell ⟨w.heap.size + 1, 1, none⟩ (.slice (some ⟨gb, 0, none⟩) wins.length gc)).setCell ⟨w.heap.size + 1, 2, none⟩ (.slice ma shown.length mc)) from (((Turn.refl _ _).setCell (by simp) _ _).setCell (by simp) _ _).setCell (by simp) _ _)
  have HG := hide (show GParts W.heap.size w3 (.slice ua ins.length uc) (.slice (some ⟨gb, 0, none⟩) wins.length gc) (.slice ma shown.length mc) vs G ins wins shown by
    have z1 := (unhide BB1).size
    have z2 := unhide Z2
    have zd := (unhide BD).size
    refine ⟨(unhide R1c).mono zd, (unhide R2c).mono z1, (unhide R3).mono (by omega), fun k hk => ⟨fun h => ?_, fun i hi hm => ?_⟩, fun k hk h => ?_, fun k hk => ⟨fun h => ?_, fun i hi hm => ?_⟩⟩
    · have := (unhide R1).lt k hk; have := (unhide R2).row.ge k h; omega
    · have := (unhide R1).lt k hk; have := ((unhide R2).ge i hi k hm).1; omega
    · have := (unhide R1).lt k hk; have := (unhide R3).ge k h; omega
    · have := (unhide R2).row.lt k h; have := (unhide R3).ge k hk; omega
    · have := (unhide R2).lt i hi k hm; have := (unhide R3).ge k hk; omega)
  have HGF := hide (((unhide HG).turn (unhide TT) (fun k hm => by have := unhide HZ; simp at hm; omega)).mono (show w.heap.size ≤ W.heap.size by have := unhide HZ; omega))
  have HBF := hide (show Below w.heap.size w (((w3.setCell ⟨w.heap.size + 1, 0, none⟩ (.slice ua ins.length uc)).setCell ⟨w.heap.size + 1, 1, none⟩ (.slice (some ⟨gb, 0, none⟩) wins.length gc)).setCell ⟨w.heap.size + 1, 2, none⟩ (.slice ma shown.length mc)) from ((unhide B0).trans ((unhide BB3).mono (unhide B0).size)).trans ((unhide TT).below ((unhide B0).trans ((unhide BB3).mono (unhide B0).size)).size (fun k hk => by simp at hk; omega)))
  clear HG TT R1 R1b R1c R2 R2c R3 BB1 BB2 BB3 Z2 Z3 X0 X1 KP KS
  rename_i hHeld
  clear hHeld
  generalize ((w3.setCell ⟨w.heap.size + 1, 0, none⟩ (.slice ua ins.length uc)).setCell ⟨w.heap.size + 1, 1, none⟩ (.slice (some ⟨gb, 0, none⟩) wins.length gc)).setCell ⟨w.heap.size + 1, 2, none⟩ (.slice ma shown.length mc) = WF at *
  obtain ⟨⟨s0, s1, s2⟩, -⟩ := (unhide XB).three
  go_wp2_with fail
  refine bodyPost_ret (v := .agg #[.slice ua ins.length uc, .slice (some ⟨gb, 0, none⟩) wins.length gc, .slice ma shown.length mc]) ?_ rfl ?_
  · simp [results, Tryz.results35, go_sem, s0, s1, s2]
  exact ⟨ua, uc, gb, gc, ma, mc, vs, G, rfl, HGF, unhide HBF⟩
end Go.Proofs.YtknkdbfgfcgkiaaGreatDoor

set_option linter.unusedVariables false
namespace Go.Proofs.YtknkdbfgfcgkiaaGreatDoor
open Go.RowKit Go.Maps Go.Deep

end Go.Proofs.YtknkdbfgfcgkiaaGreatDoor

set_option linter.unusedVariables false
namespace Go.Proofs.YtknkdbfgfcgkiaaGreatDoor
open Go.RowKit Go.Maps Go.Deep Go.Shelf

attribute [local go_sem] Oper.semAt_some

theorem keepsOthers_below {W W' : World} (hb : Below W.heap.size W W') : KeepsOthers W W' := KeepsOthers.of_grownBy (row := none) ⟨hb.os, hb.tape, hb.output, hb.size, fun k hk _ => hb.block k hk⟩ (fun j o e => by cases e)
theorem lastL_has {xs : List RawI} {k i : Nat} (hk : k ≤ xs.length) (h1 : xs.length - k ≤ i) (h2 : i < xs.length) : ∃ y ∈ lastL xs k, y.1 = i := by
  refine ⟨_, List.mem_map.2 ⟨xs.length - 1 - i, List.mem_range.2 (by omega), rfl⟩, ?_⟩
  show xs.length - 1 - (xs.length - 1 - i) = i
  omega
end Go.Proofs.YtknkdbfgfcgkiaaGreatDoor

set_option linter.unusedVariables false
namespace Go.Proofs.YtknkdbfgfcgkiaaGreatDoor
open Go.RowKit Go.Maps Go.Deep

def ItemRd (w : World) (v : Value) (x : ItemV) : Prop := ∃ u, v = .agg #[.int .i64 x.a0, u] ∧ MarkSRd w u x.a1
def ItemOwn (S : List Nat) (w : World) (v : Value) (x : ItemV) : Prop := ∃ u, v = .agg #[.int .i64 x.a0, u] ∧ MarkSOwn S w u x.a1
theorem ItemRd.form {w : World} {v : Value} {x : ItemV} (h : ItemRd w v x) : ∃ z a n c, v = .agg #[.int .i64 z, .slice a n c] := by
  obtain ⟨u, rfl, h⟩ := h
  obtain ⟨a, n, c, rfl⟩ := h.form
  exact ⟨_, a, n, c, rfl⟩
theorem ItemRd.up {w w' : World} {v : Value} {x : ItemV} (h : ItemRd w v x) (hb : Below w.heap.size w w') : ItemRd w' v x := by
  obtain ⟨u, rfl, h⟩ := h
  exact ⟨u, rfl, h.up hb⟩
theorem ItemOwn.rd {S : List Nat} {w : World} {v : Value} {x : ItemV} (h : ItemOwn S w v x) : ItemRd w v x := by
  obtain ⟨u, rfl, h⟩ := h
  exact ⟨u, rfl, h.rd⟩
theorem ItemOwn.turn {S S' : List Nat} {w w' : World} {v : Value} {x : ItemV} (h : ItemOwn S w v x) (ht : Turn S' w w') (hS : ∀ k ∈ S, k ∉ S') : ItemOwn S w' v x := by
  obtain ⟨u, rfl, h⟩ := h
  exact ⟨u, rfl, h.turn ht hS⟩
theorem ItemOwn.up {S : List Nat} {w w' : World} {v : Value} {x : ItemV} (h : ItemOwn S w v x) (hb : Below w.heap.size w w') : ItemOwn S w' v x := by
  obtain ⟨u, rfl, h⟩ := h
  exact ⟨u, rfl, h.up hb⟩
theorem ItemOwn.lt {S : List Nat} {w : World} {v : Value} {x : ItemV} (h : ItemOwn S w v x) : ∀ k ∈ S, k < w.heap.size := by
  obtain ⟨u, rfl, h⟩ := h
  exact h.lt
def nItem (x : ItemV) : Nat := nMarkS x.a1
def marksItem (k : Nat) (x : ItemV) : ItemV := ⟨x.a0, marksMarkS k x.a1⟩
theorem nItem_le {x : ItemV} (h : SmallItem x) : nItem x ≤ 100000000 := nMarkS_le h.2
theorem eqItem_kit (x : ItemV) (v v' : Value) (w : World) (hs : SmallItem x) (h : ItemRd w v x) (h' : ItemRd w v' x) :
    Calls Tryz.prog 41 #[v, v'] w fun e w' => e = .returned (.bool true) ∧ Below w.heap.size w w' := by
  obtain ⟨u, rfl, h⟩ := h
  obtain ⟨u', rfl, h'⟩ := h'
  exact eqItem_any x.a0 u u' x.a1 w hs.2 h h'
theorem markItem_kit (S : List Nat) (x : ItemV) (v : Value) (w : World) (k n : Nat) (K : Int) (hK : K = (k : Int)) (hn : nItem x = n) (hk : k ≤ 100000000000000) (hs : SmallItem x) (h : ItemOwn S w v x) :
    Calls Tryz.prog 45 #[v, .int .i64 K] w fun e w' => e = .returned (.int .i64 (K + (n : Int))) ∧ Hid (ItemOwn S w' v (marksItem k x) ∧ Turn S w w') := by
  subst hK hn
  obtain ⟨u, rfl, h⟩ := h
  refine (markItem_any S x.a0 u x.a1 w k (by omega) hs.2 h).mono ?_
  rintro e w' ⟨rfl, h1, h2⟩
  exact ⟨rfl, hide ⟨⟨u, rfl, unhide h1⟩, h2⟩⟩
theorem szItem_kitL (x : ItemV) (v : Value) (left : Int) (w : World) (h0 : 0 ≤ left) (h1 : left ≤ 1048576) (hf : ItemFit x) (h : ItemRd w v x) :
    Calls Tryz.prog 21 #[v, .int .i64 left] w fun e w' => ∃ q : Int, e = .returned (.int .i64 q) ∧ q ≤ left ∧ Hid (0 ≤ q → SmallItem x) ∧ Below w.heap.size w w' := by
  obtain ⟨u, rfl, h⟩ := h
  refine (szItem_any x.a0 u x.a1 left w hf.2 h h0 h1).mono ?_
  rintro e w' ⟨r, rfl, h1, h2, h3⟩
  exact ⟨r, rfl, h1, hide (fun h => ⟨hf.1, unhide h2 h⟩), h3⟩
theorem toItem_kit (x : ItemV) (v : Value) (w : World) (hs : SmallItem x) (h : ItemRd w v x) :
    Calls Tryz.prog 32 #[v] w fun e w' => ∃ v S, e = .returned v ∧ Hid (ItemOwn S w' v x) ∧ Hid (∀ k ∈ S, w.heap.size ≤ k) ∧ Below w.heap.size w w' := by
  obtain ⟨u, rfl, h⟩ := h
  refine (toItem_any x.a0 u x.a1 w hs.2 h).mono ?_
  rintro e w' ⟨g, rfl, h1, h2, h3⟩
  exact ⟨_, [g], rfl, hide ⟨_, rfl, h2⟩, hide (by simpa using h1), h3⟩
end Go.Proofs.YtknkdbfgfcgkiaaGreatDoor
