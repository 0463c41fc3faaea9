/-
  append(nil, make([]T, n)...): an operation of its own in the model.
-/
/-
  New rows of bytes: the specification's l6Bytes, bytes.Clone, slices.Concat of two.
-/
/-
  slices.Clone over windows; a row of windows one of which is written.
-/
/-
  The program's own copies: texts, and windows where nothing is in them.
-/
/-
  A list of items that comes in is opened.
-/
/-
  A list of windows that comes in is opened.
-/
/-
  Three boxes of a call: two arguments and an answer.
-/
/-
  Gatherers in memory, for reading: inputs, windows, the stamp that was shown last; the laws' own helpers over one: how much it holds, how it is copied, compared, and how one that comes in is opened.
-/
import Derived.Test.YtknkdbfgfcgkiaaGreatDoorMerged3
import Derived.Deep.Slices
import Derived.Test.YtknkdbfgfcgkiaaGreatDoorMerged21
import Derived.Lib.SliceRun
import Derived.Test.YtknkdbfgfcgkiaaGreatDoorMerged11
import Derived.Test.YtknkdbfgfcgkiaaGreatDoorMerged9
import Derived.Test.YtknkdbfgfcgkiaaGreatDoorMerged10
import Derived.Test.YtknkdbfgfcgkiaaGreatDoorMerged5
import Derived.ProofKit
import Derived.OpenShut
import Derived.Test.YtknkdbfgfcgkiaaGreatDoorMerged6
import Derived.Test.YtknkdbfgfcgkiaaGreatDoorStrRows
import Derived.Handy
set_option linter.unusedVariables false
namespace Go.Proofs.YtknkdbfgfcgkiaaGreatDoor
open Go.RowKit Go.Maps Go.Deep

end Go.Proofs.YtknkdbfgfcgkiaaGreatDoor

set_option linter.unusedVariables false
namespace Go.Proofs.YtknkdbfgfcgkiaaGreatDoor
open Go.RowKit Go.Maps Go.Deep

end Go.Proofs.YtknkdbfgfcgkiaaGreatDoor

set_option linter.unusedVariables false
namespace Go.Proofs.YtknkdbfgfcgkiaaGreatDoor
open Go.RowKit Go.Maps Go.Deep

theorem wiLit (w : World) (B : Nat) (hB : B ≤ w.heap.size) : WiRow B (w.alloc (.cells #[] 60)) (.slice (some ⟨w.heap.size, 0, none⟩) 0 0) [] :=
  World.ownsRow_lit (size := 1) w #[] 0 hB (by unfold maxLen; omega) rfl
/-- the cells of windows: each one a slice -/
def Slics (vs : List Value) : Prop := ∀ u ∈ vs, ∃ a n c, u = .slice a n c
theorem wpList_wiSpread {w : World} {ops : Array Oper} {rest : List Oper} {o : Oper} {a : Act} {Q : Exit → Act → World → Prop} (hgd : o.guard = none) (s x : Operand)
    (ho : o.op = .call { callee := .builtin .append, args := #[s, x], argTypes := #[33, 33] }) (B : Nat) (v : Value) (vs us : List Value) (b off n c : Nat) (hs : a.eval s = v) (hx : a.eval x = .slice (some ⟨b, off, none⟩) n c)
    (hv : WiRow B w v vs) (hn : us.length = n) (h0 : 0 < n) (hus : Slics us) (c0 : ∀ i (h : i < us.length), w.cell? ⟨b, off + i, none⟩ = some us[i]) (hl : vs.length + n ≤ 1000000) (hB : B ≤ w.heap.size)
    (h : ∀ g' m c w', WiRow B w' (.slice (some ⟨g', 0, none⟩) m c) (vs ++ us) → m = vs.length + n → w.grownBy w' v.ownBlock → (v.ownBlock = some g' ∨ g' = w.heap.size) → wpList Tryz.prog ops Q rest (a.put o.dst (.slice (some ⟨g', 0, none⟩) m c)) w') : wpList Tryz.prog ops Q (o :: rest) a w := by
  obtain ⟨i0, hi, hz0, hz1, hz2⟩ := info_parts1 infoWi
  refine wpList_append_lies w hgd s x 33 ho B 60 i0 _ 1 24 Tryz.underlying33 hi hz0 hz1 hz2 rfl (by decide) v vs.length vs hs hv ⟨b, off, none⟩ n c us hx (by omega) (fun j u hj => by
    obtain ⟨hj', e⟩ := List.getElem?_eq_some_iff.1 hj
    rw [Addr.add_lit, ← e]
    exact c0 j hj') (fun u hu => by obtain ⟨a, n, c, rfl⟩ := hus u hu; rfl) h0 (by unfold maxLen; omega) (by omega) hB w.heap.size rfl ?_
  intro g' cap w' h2 h3 h4 h5
  refine h g' _ cap w' ?_ rfl h3 h4
  unfold WiRow
  rw [List.length_append, hn]
  exact h2
set_option maxHeartbeats 1600000 in
theorem cloneWins_any (w : World) (b off n c : Nat) (us : List Value) (hn : us.length = n) (h0 : 0 < n) (h6 : n ≤ 6) (hus : Slics us) (hb : b < w.heap.size) (c0 : ∀ i (h : i < us.length), w.cell? ⟨b, off + i, none⟩ = some us[i]) :
    Calls Tryz.prog 67 #[.slice (some ⟨b, off, none⟩) n c] w fun e w' => ∃ g m, e = .returned (.slice (some ⟨g, 0, none⟩) n m) ∧ Hid (WiRow w.heap.size w' (.slice (some ⟨g, 0, none⟩) n m) us) ∧ Below w.heap.size w w' := by
  have q22 : ∀ (w : World) (a : Option Addr) (n c n' c' : Nat), (binOp .eql 33 (.slice a n c) (.slice none n' c')).run Tryz.prog w = .ok (.bool a.isNone) w := fun w a n c n' c' => Lib.run_eql_slice_nil w _ _ a n c n' c' Tryz.underlying33
  have R0 := hide (wiLit w w.heap.size (Nat.le_refl _))
  have BL := hide ((Below.refl w.heap.size w).alloc (Nat.le_refl _) (.cells #[] 60))
  have C0 := hide (fun i (h : i < us.length) => ((unhide BL).cell (show b < w.heap.size from hb)).trans (c0 i h))
  have HN := hide hn
  clear c0 hn
  go_enter Tryz.func67, Tryz.ntmps67
  go_wp2_with (first
    | (at_builtin; refine wpList_wiSpread rfl _ _ rfl w.heap.size _ [] us b off n c rfl rfl (unhide R0) (unhide HN) h0 hus (unhide C0) (by simp; omega) (by simp) ?_; simp only [List.length_nil, Nat.zero_add, List.nil_append]; intro g1 m1 c1 w1 r1 hm1 g2 _; subst hm1; have R1 := hide r1; have B1 := hide ((unhide BL).grown g2 (by simp) (fun y hy => (unhide R0).ge y hy)); clear r1 g2)
    | fail)
  go_ret
  exact ⟨g1, c1, rfl, R1, unhide B1⟩
theorem WiRow.at {B : Nat} {w : World} {g n c : Nat} {vs : List Value} (h : WiRow B w (.slice (some ⟨g, 0, none⟩) n c) vs) {i : Nat} (hi : i < vs.length) : w.cell? ⟨g, i, none⟩ = some vs[i] ∧ w.frozen? ⟨g, i, none⟩ = false := by
  have hh : w.ownsRow B 60 1 (.slice (some ⟨g, 0, none⟩) n c) vs.length vs := h
  have hn : n = vs.length := by
    rcases h.slice with ⟨e, _⟩ | ⟨g', c', e, _⟩
    · simp at e
    · simp only [Value.slice.injEq] at e
      exact e.2.1
  subst hn
  exact ⟨by rw [hh.cellAt _ (by omega)]; simp, hh.frozenAt i⟩
theorem WiRow.set {B : Nat} {w : World} {g n c : Nat} {vs : List Value} (h : WiRow B w (.slice (some ⟨g, 0, none⟩) n c) vs) (i : Nat) (x : Value) : WiRow B (w.setCell ⟨g, i, none⟩ x) (.slice (some ⟨g, 0, none⟩) n c) (vs.set i x) := by
  have hh : w.ownsRow B 60 1 (.slice (some ⟨g, 0, none⟩) n c) vs.length vs := h
  have hn : n = vs.length := by
    rcases h.slice with ⟨e, _⟩ | ⟨g', c', e, _⟩
    · simp at e
    · simp only [Value.slice.injEq] at e
      exact e.2.1
  subst hn
  unfold WiRow
  rw [List.length_set]
  exact (hh.stored i x).1
end Go.Proofs.YtknkdbfgfcgkiaaGreatDoor

set_option linter.unusedVariables false
namespace Go.Proofs.YtknkdbfgfcgkiaaGreatDoor
open Go.RowKit Go.Maps Go.Deep

set_option maxHeartbeats 3200000 in
theorem ownTexts_any (ts : List ByteArray) (v : Value) (w : World) (hs : SmallStringS ts) (hl : ts.length ≤ 1000000) (h : StringSRd w v ts) :
    Calls Tryz.prog 73 #[v] w fun e w' => ∃ u, e = .returned u ∧ Hid (TxRow w.heap.size w' u ts) ∧ Below w.heap.size w w' := by
  obtain ⟨a, cap, rfl, h⟩ := h
  have HA := hide h
  have HSZ := hide hs.2
  clear h hs
  go_enter Tryz.func73, Tryz.ntmps73
  go_wp2_with fail
  go_loopw [3, 8] (fun v i wr => ∃ (k : Nat), k ≤ ts.length ∧ i = .int .i64 k ∧ Hid (TxRow w.heap.size wr v (ts.take k)) ∧ Hid (Below w.heap.size w wr)) (fun _ i _ => ts.length - (intOf i).toNat)
  case atStart => exact ⟨0, Nat.zero_le _, rfl, TxRow.nil _ _, Below.refl _ _⟩
  case round =>
    obtain ⟨k, hk, rfl, HR, HBr⟩ := hrel
    have hlo : (ts.take k).length ≤ 1000000 := by simp; omega
    obtain ⟨av, cv, hv⟩ := (unhide HR).slice
    subst hv
    by_cases hlt : k < ts.length
    · rcases unhide HA with rfl | ⟨ba, oa, rfl, hba, hca⟩
      · simp at hlt
      have HT := hide (show ts.take (k + 1) = ts.take k ++ [ts[k]] from List.take_succ_eq_append_getElem hlt)
      have c0 := hca.below (unhide HBr) hba k hlt
      have hms := unhide HSZ _ (List.getElem_mem hlt)
      have HCL := hide (fun X => clone_any' ts[k] X hms)
      clear hca hms
      generalize ts[k] = t at *
      generalize ts.take k = out at *
      go_wp2_with fail
      refine (unhide HCL _).mono ?_
      rintro e w3 ⟨rfl, b3⟩
      have B3 := hide ((unhide HBr).trans (b3.mono (unhide HBr).size))
      have R3 := hide ((unhide HR).up b3)
      clear b3 c0
      have hz1 : w.heap.size ≤ (w3.alloc (.cells #[.string t] 9)).heap.size := by have := (unhide B3).size; simp; omega
      have RA1 := hide ((unhide R3).up ((Below.refl _ _).alloc (Nat.le_refl _) (.cells #[.string t] 9)))
      have BA1 := hide ((unhide B3).alloc (unhide B3).size (.cells #[.string t] 9))
      have ca1 : (w3.alloc (.cells #[.string t] 9)).cell? ⟨w3.heap.size, 0, none⟩ = some (.string t) := World.cell?_alloc_at _ _ _ _ rfl
      go_wp2_with (first
        | (at_builtin; have _g := RA1; refine wpList_txAppend rfl _ _ rfl w.heap.size (.slice av out.length cv) out t w3.heap.size rfl rfl (unhide RA1) ca1 (by omega) hz1 ?_; intro g1 n1 cp1 X1 hr1 hg1; have RX1 := hide hr1; have BX1 := hide ((unhide BA1).grown hg1 (unhide BA1).size (fun q hq => (unhide RA1).ge q hq)); clear hr1 hg1 RA1 BA1)
        | fail)
      go_roundw
      case rel => exact ⟨k + 1, by omega, by go_num, by rw [unhide HT]; exact RX1, BX1⟩
      case measure => simp [intOf]; omega
    · obtain rfl : k = ts.length := by omega
      have HR2 := hide (show TxRow w.heap.size wr (.slice av (ts.take ts.length).length cv) ts by have := unhide HR; rwa [List.take_length] at this ⊢)
      go_wp2_with fail
      go_ret
      exact ⟨_, rfl, HR2, unhide HBr⟩
end Go.Proofs.YtknkdbfgfcgkiaaGreatDoor

set_option linter.unusedVariables false
namespace Go.Proofs.YtknkdbfgfcgkiaaGreatDoor
open Go.RowKit Go.Maps Go.Deep

theorem cellsOfItem : Tryz.prog.cellsOf 28 = 2 := by kernel_rfl
theorem cellsMkItem : Tryz.prog.cellsOf 24 = 1 := by kernel_rfl
set_option maxRecDepth 20000 in
theorem openItemS {H : Type} {enc : TypeId × Value → H} {w : World} {base : Nat} {spare : Nat → Bool} {held : Bool} {a : Option Addr} {len cap : Nat} {d : DataW H} {p : List MemPlace}
    (h : DataW.Trod enc Tryz.prog w base spare held 98 (.slice a len cap) d p) :
    ∃ ns : List ItemV, ns.length = len ∧ len ≤ maxLen ∧ ItemIn w a ns ∧ ∀ x ∈ ns, ItemFit x := by
  obtain ⟨fuel, hf⟩ := h
  rcases open_slice Tryz.underlying98 hf with ⟨hcs, _⟩ | ⟨a', len', cap', m, n, D, Pl, hcs, hb, hl, hm, hmm, _, hx⟩
  · simp [Value.cells] at hcs
    obtain ⟨rfl, rfl, rfl⟩ := hcs
    exact ⟨[], rfl, by unfold maxLen; omega, .inl rfl, fun _ h => by cases h⟩
  · simp [Value.cells] at hcs
    obtain ⟨rfl, rfl, rfl⟩ := hcs
    have hlm : len ≤ m := by rw [hmm]; split <;> omega
    have each : ∀ i, i < len → ∃ q : Int × List MarkV, w.cell? (a'.add (i * 2)) = some (.int .i64 (q.1)) ∧ (∃ v, w.cell? (a'.add (i * 2 + 1)) = some v ∧ MarkSRd w v q.2) ∧ ItemFit ⟨q.1, q.2⟩ := by
      intro i hi
      obtain ⟨cs', h1, h2⟩ := hx i (by omega)
      rw [cellsOfItem] at h1
      obtain ⟨_, hlen, hcell⟩ := World.cells?_some h1
      obtain ⟨xs, k, hk, hxy, _, hxl, hf⟩ := DataW.trod_struct Tryz.underlying28 h2
      match xs, hxl, cs', hlen with
      | [y0, y1], _, [v0, v1], _ =>
        have g0 := hf 0 _ rfl
        have g1 := hf 1 _ rfl
        simp [cellsIMark, cellsMkItem] at g0 g1
        obtain ⟨n0, e0, _, hs0⟩ := DataW.trod_int Tryz.underlying3 g0
        simp at e0
        subst e0
        have hv1 : ∃ a1 l1 c1, v1 = .slice a1 l1 c1 := by
          rcases open_slice Tryz.underlying24 g1 with ⟨hcs, _⟩ | ⟨a1, l1, c1, _, _, _, _, hcs, _⟩
          · simp at hcs; exact ⟨_, _, _, hcs⟩
          · simp at hcs; exact ⟨_, _, _, hcs⟩
        obtain ⟨a1, l1, c1, rfl⟩ := hv1
        obtain ⟨ms, rfl, hml, hmi, hmo⟩ := openMarkS ⟨_, g1⟩
        have c0 := hcell 0 (by omega)
        have c1' := hcell 1 (by omega)
        rw [add_add] at c0 c1'
        exact ⟨(n0, ms), by simpa using c0, ⟨_, by simpa using c1', a1, c1, rfl, hmi⟩, ⟨markRange hs0, hml, hmo⟩⟩
    have hin : Inhabited (Int × List MarkV) := ⟨(0, [])⟩
    obtain ⟨q, hq⟩ := choose_lt each
    refine ⟨(List.range len).map fun i => ⟨(q i).1, (q i).2⟩, by simp, by omega, ?_, ?_⟩
    · by_cases h0 : len = 0
      · subst h0; exact .inl (by simp)
      · have hc0 := (hq 0 (by omega)).1
        obtain ⟨b, off, spot⟩ := a'
        have hspot : spot = none := by simpa [Addr.add] using World.cell?_spot hc0
        subst hspot
        refine .inr ⟨b, off, rfl, ?_, ?_⟩
        · exact lt_of_cellMark (by simpa [Addr.add] using hc0)
        · intro i hi
          have hi' : i < len := by simpa using hi
          obtain ⟨c0, ⟨v, c1, hv⟩, _⟩ := hq i hi'
          simp only [List.getElem_map, List.getElem_range]
          refine ⟨?_, v, ?_, hv⟩
          · by_cases e : i = 0
            · subst e; simpa [Addr.add] using c0
            · have e4 : ¬ i * 2 = 0 := by omega
              simpa [Addr.add, e4] using c0
          · simpa [Addr.add, Nat.add_assoc] using c1
    · intro x hx
      simp at hx
      obtain ⟨i, hi, rfl⟩ := hx
      exact (hq i hi).2.2
end Go.Proofs.YtknkdbfgfcgkiaaGreatDoor

set_option linter.unusedVariables false
namespace Go.Proofs.YtknkdbfgfcgkiaaGreatDoor
open Go.RowKit Go.Maps Go.Deep

theorem cellsItemS : Tryz.prog.cellsOf 98 = 1 := by kernel_rfl
set_option maxRecDepth 20000 in
theorem openItemSS {H : Type} {enc : TypeId × Value → H} {w : World} {base : Nat} {spare : Nat → Bool} {held : Bool} {a : Option Addr} {len cap : Nat} {d : DataW H} {p : List MemPlace}
    (h : DataW.Trod enc Tryz.prog w base spare held 23 (.slice a len cap) d p) :
    ∃ ns : List (List ItemV), ns.length = len ∧ len ≤ maxLen ∧ WinsIn w a ns ∧ ∀ x ∈ ns, ItemSFit x := by
  obtain ⟨fuel, hf⟩ := h
  rcases open_slice Tryz.underlying23 hf with ⟨hcs, _⟩ | ⟨a', len', cap', m, n, D, Pl, hcs, hb, hl, hm, hmm, _, hx⟩
  · simp [Value.cells] at hcs
    obtain ⟨rfl, rfl, rfl⟩ := hcs
    exact ⟨[], rfl, by unfold maxLen; omega, .inl rfl, fun _ h => by cases h⟩
  · simp [Value.cells] at hcs
    obtain ⟨rfl, rfl, rfl⟩ := hcs
    have hlm : len ≤ m := by rw [hmm]; split <;> omega
    have each : ∀ i, i < len → ∃ q : List ItemV, (∃ v, w.cell? (a'.add i) = some v ∧ ItemSRd w v q) ∧ ItemSFit q := by
      intro i hi
      obtain ⟨cs', h1, h2⟩ := hx i (by omega)
      rw [cellsItemS] at h1
      obtain ⟨_, hlen, hcell⟩ := World.cells?_some h1
      match cs', hlen with
      | [v0], _ =>
        have hv0 : ∃ a1 l1 c1, v0 = .slice a1 l1 c1 := by
          rcases open_slice Tryz.underlying98 h2 with ⟨hcs, _⟩ | ⟨a1, l1, c1, _, _, _, _, hcs, _⟩
          · simp at hcs; exact ⟨_, _, _, hcs⟩
          · simp at hcs; exact ⟨_, _, _, hcs⟩
        obtain ⟨a1, l1, c1, rfl⟩ := hv0
        obtain ⟨ms, rfl, hml, hmi, hmo⟩ := openItemS ⟨_, h2⟩
        have c0 := hcell 0 (by omega)
        rw [add_add] at c0
        exact ⟨ms, ⟨_, by simpa using c0, a1, c1, rfl, hmi⟩, hml, hmo⟩
    have hin : Inhabited (List ItemV) := ⟨[]⟩
    obtain ⟨q, hq⟩ := choose_lt each
    refine ⟨(List.range len).map q, by simp, by omega, ?_, ?_⟩
    · by_cases h0 : len = 0
      · subst h0; exact .inl (by simp)
      · obtain ⟨⟨v, hc0, _⟩, _⟩ := hq 0 (by omega)
        obtain ⟨b, off, spot⟩ := a'
        have hspot : spot = none := by simpa [Addr.add] using World.cell?_spot hc0
        subst hspot
        refine .inr ⟨b, off, rfl, ?_, ?_⟩
        · exact lt_of_cellMark (by simpa [Addr.add] using hc0)
        · intro i hi
          have hi' : i < len := by simpa using hi
          obtain ⟨⟨v, c0, hv⟩, _⟩ := hq i hi'
          simp only [List.getElem_map, List.getElem_range]
          refine ⟨v, ?_, hv⟩
          by_cases e : i = 0
          · subst e; simpa [Addr.add] using c0
          · simpa [Addr.add, e] using c0
    · intro x hx
      simp at hx
      obtain ⟨i, hi, rfl⟩ := hx
      exact (hq i hi).2
end Go.Proofs.YtknkdbfgfcgkiaaGreatDoor

set_option linter.unusedVariables false
namespace Go.Proofs.YtknkdbfgfcgkiaaGreatDoor
open Go.RowKit Go.Maps

theorem boxes3 (w : World) (A B C : List Value) (TA TB TC : TypeId) :
    BoxF (((w.alloc (.cells A.toArray TA)).alloc (.cells B.toArray TB)).alloc (.cells C.toArray TC)) w.heap.size A ∧ BoxF (((w.alloc (.cells A.toArray TA)).alloc (.cells B.toArray TB)).alloc (.cells C.toArray TC)) (w.heap.size + 1) B ∧ BoxF (((w.alloc (.cells A.toArray TA)).alloc (.cells B.toArray TB)).alloc (.cells C.toArray TC)) (w.heap.size + 2) C ∧ Below w.heap.size w (((w.alloc (.cells A.toArray TA)).alloc (.cells B.toArray TB)).alloc (.cells C.toArray TC)) ∧ (((w.alloc (.cells A.toArray TA)).alloc (.cells B.toArray TB)).alloc (.cells C.toArray TC)).heap.size = w.heap.size + 3 := by
  have a1 := boxF_new w A TA
  have b1 := (Below.refl w.heap.size w).alloc (Nat.le_refl _) (.cells A.toArray TA)
  have z1 : (w.alloc (.cells A.toArray TA)).heap.size = w.heap.size + 1 := by simp
  generalize w.alloc (.cells A.toArray TA) = w1 at *
  have a2 := boxF_new w1 B TB
  have u2 := (Below.refl w1.heap.size w1).alloc (Nat.le_refl _) (.cells B.toArray TB)
  have z2 : (w1.alloc (.cells B.toArray TB)).heap.size = w1.heap.size + 1 := by simp
  generalize w1.alloc (.cells B.toArray TB) = w2 at *
  have a3 := boxF_new w2 C TC
  have u3 := (Below.refl w2.heap.size w2).alloc (Nat.le_refl _) (.cells C.toArray TC)
  have z3 : (w2.alloc (.cells C.toArray TC)).heap.size = w2.heap.size + 1 := by simp
  generalize w2.alloc (.cells C.toArray TC) = w3 at *
  refine ⟨(a1.up u2).up u3, ?_, ?_, (b1.trans (u2.mono (by omega))).trans (u3.mono (by omega)), by omega⟩
  · rw [← z1]; exact a2.up u3
  · rw [show w.heap.size + 2 = w2.heap.size by omega]; exact a3
end Go.Proofs.YtknkdbfgfcgkiaaGreatDoor

set_option linter.unusedVariables false
namespace Go.Proofs.YtknkdbfgfcgkiaaGreatDoor
open Go.RowKit Go.Maps Go.Deep Go.ChangeShapes Go.WideShapes Go.ChangeAt

structure GatherV where
  ins : List ByteArray
  wins : List (List ItemV)
  shown : List MarkV
def GatherFit (g : GatherV) : Prop := StringSFit g.ins ∧ ItemSSFit g.wins ∧ MarkSFit g.shown
def SmallGather (g : GatherV) : Prop := SmallStringS g.ins ∧ SmallItemSS g.wins ∧ SmallMarkS g.shown
def GatherRd (w : World) (v : Value) (g : GatherV) : Prop := ∃ v0 v1 v2, v = .agg #[v0, v1, v2] ∧ StringSRd w v0 g.ins ∧ ItemSSRd w v1 g.wins ∧ MarkSRd w v2 g.shown
theorem GatherRd.up {w w' : World} {v : Value} {g : GatherV} (h : GatherRd w v g) (hb : Below w.heap.size w w') : GatherRd w' v g := by
  obtain ⟨v0, v1, v2, e, h0, h1, h2⟩ := h
  exact ⟨v0, v1, v2, e, h0.up hb, h1.up hb, h2.up hb⟩
theorem GatherRd.form {w : World} {v : Value} {g : GatherV} (h : GatherRd w v g) : ∃ a0 n0 c0 a1 n1 c1 a2 n2 c2, v = .agg #[.slice a0 n0 c0, .slice a1 n1 c1, .slice a2 n2 c2] := by
  obtain ⟨v0, v1, v2, rfl, h0, h1, h2⟩ := h
  obtain ⟨a0, n0, c0, rfl⟩ := h0.form
  obtain ⟨a1, n1, c1, rfl⟩ := h1.form
  obtain ⟨a2, n2, c2, rfl⟩ := h2.form
  exact ⟨_, _, _, _, _, _, _, _, _, rfl⟩
/-- for laws that mark nothing: what was copied may be read -/
def GatherRoom (v : Value) : Prop := ∀ a n c v1 v2, v = .agg #[.slice a n c, v1, v2] → n ≤ c
def GatherOwn (S : List Nat) (w : World) (v : Value) (g : GatherV) : Prop := S = [] ∧ GatherRd w v g ∧ GatherRoom v
theorem GatherOwn.rd {S : List Nat} {w : World} {v : Value} {g : GatherV} (h : GatherOwn S w v g) : GatherRd w v g := h.2.1
theorem GatherOwn.up {S : List Nat} {w w' : World} {v : Value} {g : GatherV} (h : GatherOwn S w v g) (hb : Below w.heap.size w w') : GatherOwn S w' v g := ⟨h.1, h.2.1.up hb, h.2.2⟩
theorem GatherOwn.lt {S : List Nat} {w : World} {v : Value} {g : GatherV} (h : GatherOwn S w v g) : ∀ k ∈ S, k < w.heap.size := by rw [h.1]; simp
theorem BoxIs.three {w : World} {g : Nat} {a b c : Value} (h : BoxIs w g [a, b, c]) : w.cell? ⟨g, 0, none⟩ = some a ∧ w.cell? ⟨g, 1, none⟩ = some b ∧ w.cell? ⟨g, 2, none⟩ = some c := ⟨h.2 0 _ rfl, h.2 1 _ rfl, h.2 2 _ rfl⟩
theorem boxNew3 (w : World) (a b c : Value) (T : TypeId) : BoxIs (w.alloc (.cells #[a, b, c] T)) w.heap.size [a, b, c] ∧ Below w.heap.size w (w.alloc (.cells #[a, b, c] T)) ∧ w.heap.size < (w.alloc (.cells #[a, b, c] T)).heap.size :=
  ⟨boxMade w [a, b, c] T, (Below.refl _ _).alloc (Nat.le_refl _) _, by simp⟩
theorem BoxF.three {w : World} {g : Nat} {a b c : Value} (h : BoxF w g [a, b, c]) : (w.cell? ⟨g, 0, none⟩ = some a ∧ w.cell? ⟨g, 1, none⟩ = some b ∧ w.cell? ⟨g, 2, none⟩ = some c) ∧ (w.frozen? ⟨g, 0, none⟩ = false ∧ w.frozen? ⟨g, 1, none⟩ = false ∧ w.frozen? ⟨g, 2, none⟩ = false) :=
  ⟨h.1.three, h.2 0 (by simp), h.2 1 (by simp), h.2 2 (by simp)⟩
theorem toStringS_hi (ts : List ByteArray) (v : Value) (w : World) (hs : SmallStringS ts) (h : StringSRd w v ts) :
    Calls Tryz.prog 29 #[v] w fun e w' => e = .returned (.slice (some ⟨w.heap.size, 0, none⟩) ts.length ts.length) ∧ Hid (StringSOwn [w.heap.size] w' (.slice (some ⟨w.heap.size, 0, none⟩) ts.length ts.length) ts) ∧ Below w.heap.size w w' := by
  obtain ⟨a, c, rfl, h⟩ := h
  rcases h with rfl | ⟨b, off, rfl, hb, hc⟩
  · refine (toStringS_none w a c).mono ?_
    rintro e w' ⟨rfl, h2, h3⟩
    exact ⟨rfl, hide (.inr ⟨w.heap.size, 0, 0, rfl, rfl, h2, fun i hi => by simp at hi, fun i hi => by simp at hi⟩), h3⟩
  · refine (toStringS_row w b off c ts hs.1 hc hb).mono ?_
    rintro e w' ⟨rfl, hr, h2, h3⟩
    refine ⟨rfl, .inr ⟨w.heap.size, 0, ts.length, rfl, rfl, h2, fun i hi => ?_, fun i _ => hr.frozenAt _⟩, h3⟩
    rw [Nat.zero_add, hr.cellAt _ (by omega)]
    simp [hi]
theorem toMarkS_hi (ns : List MarkV) (v : Value) (w : World) (hs : SmallMarkS ns) (h : MarkSRd w v ns) :
    Calls Tryz.prog 31 #[v] w fun e w' => e = .returned (.slice (some ⟨w.heap.size, 0, none⟩) ns.length ns.length) ∧ Hid (MarkSOwn [w.heap.size] w' (.slice (some ⟨w.heap.size, 0, none⟩) ns.length ns.length) ns) ∧ Below w.heap.size w w' := by
  refine (toMarkS_own ns v w hs h).mono ?_
  rintro e w' ⟨rfl, h1, _, h3⟩
  exact ⟨rfl, hide h1, h3⟩
set_option maxHeartbeats 3200000 in
theorem eqGather_kit (d : GatherV) (v v' : Value) (w : World) (hs : SmallGather d) (h : GatherRd w v d) (h' : GatherRd w v' d) :
    Calls Tryz.prog 10 #[v, v'] w fun e w' => e = .returned (.bool true) ∧ Below w.heap.size w w' := by
  obtain ⟨v0, v1, v2, rfl, i0, i1, i2⟩ := h
  obtain ⟨v0', v1', v2', rfl, i0', i1', i2'⟩ := h'
  have HA := hide (fun W (b : Below w.heap.size w W) => eqStringS_kit d.ins v0 v0' W hs.1 (i0.up b) (i0'.up b))
  have HB := hide (fun W (b : Below w.heap.size w W) => eqItemSS_kit d.wins v1 v1' W hs.2.1 (i1.up b) (i1'.up b))
  have HC := hide (fun W (b : Below w.heap.size w W) => eqMarkS_kit d.shown v2 v2' W hs.2.2 (i2.up b) (i2'.up b))
  obtain ⟨a0, n0, c0, rfl⟩ := i0.form
  obtain ⟨a1, n1, c1, rfl⟩ := i1.form
  obtain ⟨a2, n2, c2, rfl⟩ := i2.form
  obtain ⟨a0', n0', c0', rfl⟩ := i0'.form
  obtain ⟨a1', n1', c1', rfl⟩ := i1'.form
  obtain ⟨a2', n2', c2', rfl⟩ := i2'.form
  clear i0 i1 i2 i0' i1' i2' hs
  obtain ⟨bx, bb, zz⟩ := boxNew3 w (.slice a0 n0 c0) (.slice a1 n1 c1) (.slice a2 n2 c2) 36
  obtain ⟨by', bc, zy⟩ := boxNew3 (w.alloc (.cells #[.slice a0 n0 c0, .slice a1 n1 c1, .slice a2 n2 c2] 36)) (.slice a0' n0' c0') (.slice a1' n1' c1') (.slice a2' n2' c2') 36
  rw [show (w.alloc (.cells #[.slice a0 n0 c0, .slice a1 n1 c1, .slice a2 n2 c2] 36)).heap.size = w.heap.size + 1 by simp] at by'
  have X := hide (bx.up bc)
  have Y := hide by'
  have B0 := hide (bb.trans (bc.mono bb.size))
  clear bx bb zz bc zy by'
  go_enter Tryz.func10, Tryz.ntmps10
  go_wp2_with fail
  generalize (w.alloc (.cells #[.slice a0 n0 c0, .slice a1 n1 c1, .slice a2 n2 c2] 36)).alloc (.cells #[.slice a0' n0' c0', .slice a1' n1' c1', .slice a2' n2' c2'] 36) = W at *
  refine (unhide HA _ (unhide B0)).mono ?_
  rintro e w1 ⟨rfl, b1⟩
  have X1 := hide ((unhide X).up b1)
  have Y1 := hide ((unhide Y).up b1)
  have B1 := hide ((unhide B0).trans (b1.mono (unhide B0).size))
  clear b1 X Y B0
  obtain ⟨p0, p1, p2⟩ := (unhide X1).three
  obtain ⟨q0, q1, q2⟩ := (unhide Y1).three
  go_wp2_with fail
  clear p0 p1 p2 q0 q1 q2
  refine (unhide HB _ (unhide B1)).mono ?_
  rintro e w2 ⟨rfl, b2⟩
  have X2 := hide ((unhide X1).up b2)
  have Y2 := hide ((unhide Y1).up b2)
  have B2 := hide ((unhide B1).trans (b2.mono (unhide B1).size))
  clear b2 X1 Y1 B1
  obtain ⟨p0, p1, p2⟩ := (unhide X2).three
  obtain ⟨q0, q1, q2⟩ := (unhide Y2).three
  go_wp2_with fail
  clear p0 p1 p2 q0 q1 q2
  refine (unhide HC _ (unhide B2)).mono ?_
  rintro e w3 ⟨rfl, b3⟩
  have B3 := hide ((unhide B2).trans (b3.mono (unhide B2).size))
  clear b3
  go_wp2_with fail
  go_ret
  exact ⟨rfl, unhide B3⟩
theorem cellsInsG : Tryz.prog.cellsOf 22 = 1 := by kernel_rfl
theorem cellsWinsG : Tryz.prog.cellsOf 23 = 1 := by kernel_rfl
theorem cellsShownG : Tryz.prog.cellsOf 24 = 1 := by kernel_rfl
theorem cellsGather : Tryz.prog.cellsOf 26 = 3 := by kernel_rfl
theorem aggOf {P : Program} {W : World} {r : Reach} {base n : Nat} {t : TypeId} {fs : Array Field} {v : Value} (ht : P.underlying t = some (.struct fs)) (hn : P.cellsOf t = n) (h : Value.okWide P W r base t v) : ∃ cs : Array Value, v = .agg cs ∧ cs.size = n := by
  simp only [Value.okWide, ht] at h
  obtain ⟨cs, h1, h2, _⟩ := h
  exact ⟨cs, h1, by rw [h2, hn]⟩
theorem array3 {cs : Array Value} (h : cs.size = 3) : ∃ a b c, cs = #[a, b, c] := by
  obtain ⟨l⟩ := cs
  match l, h with
  | [a, b, c], _ => exact ⟨a, b, c, rfl⟩
set_option maxRecDepth 20000 in
theorem openGather {H : Type} {enc : TypeId × Value → H} {w : World} {base : Nat} {spare : Nat → Bool} {held : Bool} {c0 c1 c2 : Value} {d : DataW H} {p : List MemPlace}
    (h : DataW.Trod enc Tryz.prog w base spare held 26 (.agg #[c0, c1, c2]) d p) : ∃ r : GatherV, GatherRd w (.agg #[c0, c1, c2]) r ∧ GatherFit r := by
  obtain ⟨fuel, hf⟩ := h
  obtain ⟨xs, k, hk, hxy, _, hxl, hf⟩ := DataW.trod_struct Tryz.underlying26 hf
  match xs, hxl with
  | [y0, y1, y2], _ =>
    have g0 := hf 0 _ rfl
    have g1 := hf 1 _ rfl
    have g2 := hf 2 _ rfl
    simp [Value.cells, cellsInsG, cellsWinsG, cellsShownG] at g0 g1 g2
    have form : ∀ {t e : TypeId} {c : Value} {m : Nat} {y : DataW H × List MemPlace}, Tryz.prog.underlying t = some (.slice e) → DataW.trod enc Tryz.prog w base spare held m t [c] = some y → ∃ a n cp, c = .slice a n cp := by
      intro t e c m y hu hg
      rcases open_slice hu hg with ⟨hcs, _⟩ | ⟨a1, l1, c1, _, _, _, _, hcs, _⟩
      · simp at hcs; exact ⟨_, _, _, hcs⟩
      · simp at hcs; exact ⟨_, _, _, hcs⟩
    obtain ⟨a0, n0, p0, rfl⟩ := form Tryz.underlying22 g0
    obtain ⟨a1, n1, p1, rfl⟩ := form Tryz.underlying23 g1
    obtain ⟨a2, n2, p2, rfl⟩ := form Tryz.underlying24 g2
    obtain ⟨l0, rfl, hl0, hi0, ho0⟩ := openStringS ⟨_, g0⟩
    obtain ⟨l1, rfl, hl1, hi1, ho1⟩ := openItemSS ⟨_, g1⟩
    obtain ⟨l2, rfl, hl2, hi2, ho2⟩ := openMarkS ⟨_, g2⟩
    exact ⟨⟨l0, l1, l2⟩, ⟨_, _, _, rfl, ⟨a0, p0, rfl, hi0⟩, ⟨a1, p1, rfl, hi1⟩, ⟨a2, p2, rfl, hi2⟩⟩, ⟨hl0, ho0⟩, ⟨hl1, ho1⟩, ⟨hl2, ho2⟩⟩
end Go.Proofs.YtknkdbfgfcgkiaaGreatDoor
