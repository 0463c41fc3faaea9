/-
  The marks of a list of ints written.
-/
/-
  The marks of a list of ints read back.
-/
/-
  A list of items that comes in is opened.
-/
/-
  A list of windows that comes in is opened.
-/
import Derived.Test.YtpiapgjiaeddjaaMerged15
import Derived.Test.YtpiapgjiaeddjaaItemList
import Derived.ProofKit
import Derived.OpenShut
import Derived.Test.YtpiapgjiaeddjaaWinsTo
set_option linter.unusedVariables false
namespace Go.Proofs.Ytpiapgjiaeddjaa
open Go.RowKit Go.Maps Go.Deep

/-- the ints with marks from k on -/
def marksIntS (k : Nat) (ts : List Int) : List Int := (List.range ts.length).map (fun i => ((k + i : Nat) : Int))
theorem marksIntS_len (k : Nat) (ts : List Int) : (marksIntS k ts).length = ts.length := by simp [marksIntS]
set_option maxHeartbeats 3200000 in
theorem markIntS_row (w : World) (b off cap : Nat) (ts : List Int) (k : Nat) (hk : k ≤ 1000000000000000) (hl : ts.length ≤ 1048576) (hb : b < w.heap.size) (hc : IntsAt w b off ts) (hf : ∀ i, i < ts.length → w.frozen? ⟨b, off + i, none⟩ = false) :
    Calls Try.prog 11 #[.slice (some ⟨b, off, none⟩) ts.length cap, .int .i64 (k : Int)] w fun e w' => e = .returned (.int .i64 ((k + ts.length : Nat) : Int)) ∧ Hid (IntsAt w' b off (marksIntS k ts) ∧ Turn [b] w w' ∧ ∀ i, i < ts.length → w'.frozen? ⟨b, off + i, none⟩ = false) := by
  have HC := hide hc
  have HF := hide hf
  clear hc hf
  go_enter Try.func11, Try.ntmps11
  go_wp2_with fail
  go_loopw [1, 5] (fun kv i wr => ∃ (j : Nat), j ≤ ts.length ∧ i = .int .i64 j ∧ kv = .int .i64 ((k + j : Nat) : Int) ∧ Hid (∀ i, i < j → wr.cell? ⟨b, off + i, none⟩ = some (.int .i64 ((k + i : Nat) : Int))) ∧ Hid (∀ i (h : i < ts.length), j ≤ i → wr.cell? ⟨b, off + i, none⟩ = some (.int .i64 ts[i])) ∧ Hid (∀ i, i < ts.length → wr.frozen? ⟨b, off + i, none⟩ = false) ∧ Hid (Turn [b] w wr)) (fun _ i _ => ts.length - (intOf i).toNat)
  case atStart => exact ⟨0, Nat.zero_le _, rfl, rfl, hide (fun i hi => absurd hi (Nat.not_lt_zero _)), hide (fun i h _ => unhide HC i h), HF, Turn.refl _ _⟩
  case round =>
    obtain ⟨j, hj, rfl, rfl, H1, H2, H3, HT⟩ := hrel
    by_cases hlt : j < ts.length
    · have c0 := unhide H2 j hlt (Nat.le_refl _)
      have f0 := unhide H3 j hlt
      have T4 := hide (show Turn [b] w (wr.setCell ⟨b, off + j, none⟩ (.int .i64 ((k + j : Nat) : Int))) from (unhide HT).setCell (by simp) _ _)
      have H14 := hide (show ∀ i, i < j + 1 → (wr.setCell ⟨b, off + j, none⟩ (.int .i64 ((k + j : Nat) : Int))).cell? ⟨b, off + i, none⟩ = some (.int .i64 ((k + i : Nat) : Int)) by
        intro i hi
        by_cases e : i = j
        · subst e
          exact World.cell?_setCell_same _ _ _ c0
        · rw [World.cell?_setCell_other _ _ _ _ (by intro e'; have := congrArg Addr.off e'; simp at this; omega)]
          exact unhide H1 i (by omega))
      have H24 := hide (show ∀ i (h : i < ts.length), j + 1 ≤ i → (wr.setCell ⟨b, off + j, none⟩ (.int .i64 ((k + j : Nat) : Int))).cell? ⟨b, off + i, none⟩ = some (.int .i64 ts[i]) by
        intro i h hi
        rw [World.cell?_setCell_other _ _ _ _ (by intro e'; have := congrArg Addr.off e'; simp at this; omega)]
        exact unhide H2 i h (by omega))
      have H34 := hide (show ∀ i, i < ts.length → (wr.setCell ⟨b, off + j, none⟩ (.int .i64 ((k + j : Nat) : Int))).frozen? ⟨b, off + i, none⟩ = false by
        intro i h
        rw [World.frozen?_setCell]
        exact unhide H3 i h)
      have HKE := hide (show ((k + j : Nat) : Int) + 1 = ((k + (j + 1) : Nat) : Int) by omega)
      have hK1 : (0 : Int) ≤ ((k + j : Nat) : Int) := by omega
      have hK2 : ((k + j : Nat) : Int) ≤ 10000000000000000 := by omega
      clear HT H1 H2 H3
      generalize ((k + j : Nat) : Int) = K at *
      generalize ts[j] = t at *
      go_wp2_with fail
      clear c0 f0
      go_roundw
      case rel => exact ⟨j + 1, by omega, by go_num, by rw [← unhide HKE], H14, H24, H34, T4⟩
      case measure => simp [intOf]; omega
    · have e : j = ts.length := by omega
      subst e
      have HP := hide (show IntsAt wr b off (marksIntS k ts) ∧ Turn [b] w wr ∧ ∀ i, i < ts.length → wr.frozen? ⟨b, off + i, none⟩ = false from ⟨fun i hi => by
        have hi' : i < ts.length := by simpa [marksIntS_len] using hi
        have := unhide H1 i hi'
        simpa [marksIntS] using this, unhide HT, unhide H3⟩)
      go_wp2_with fail
      go_ret
      exact ⟨rfl, HP⟩
theorem markIntS_none (w : World) (a : Option Addr) (cap : Nat) (K : Int) : Calls Try.prog 11 #[.slice a 0 cap, .int .i64 K] w fun e w' => e = .returned (.int .i64 K) ∧ w' = w := by
  go_enter Try.func11, Try.ntmps11
  go_wp2
  refine wp_loop_rounds 1 ?_
  rw [rounds_succ]
  go_wp2
  go_ret
  exact ⟨rfl, rfl⟩
theorem markIntS_kit (S : List Nat) (ts : List Int) (v : Value) (w : World) (k n : Nat) (K : Int) (hK : K = (k : Int)) (hn : nIntS ts = n) (hk : k ≤ 1000000000000000) (hs : SmallIntS ts) (h : IntSOwn S w v ts) :
    Calls Try.prog 11 #[v, .int .i64 K] w fun e w' => e = .returned (.int .i64 (K + (n : Int))) ∧ Hid (IntSOwn S w' v (marksIntS k ts) ∧ Turn S w w') := by
  subst hK hn
  have hl := hs.1
  rcases h with ⟨rfl, rfl, a, c, rfl⟩ | ⟨b, off, cap, rfl, rfl, hb, hc, hf⟩
  · refine (markIntS_none w a c k).mono ?_
    rintro e w' ⟨rfl, rfl⟩
    exact ⟨by simp [nIntS], hide ⟨.inl ⟨rfl, rfl, a, c, rfl⟩, Turn.refl _ _⟩⟩
  · refine (markIntS_row w b off cap ts k hk hl hb hc hf).mono ?_
    rintro e w' ⟨rfl, P⟩
    have ht := (unhide P).2.1
    refine ⟨by rw [show ((k + ts.length : Nat) : Int) = (k : Int) + ((nIntS ts : Nat) : Int) by unfold nIntS; omega], hide ⟨.inr ⟨b, off, cap, rfl, by rw [marksIntS_len], Nat.lt_of_lt_of_le hb ht.size, (unhide P).1, by rw [marksIntS_len]; exact (unhide P).2.2⟩, ht⟩⟩
end Go.Proofs.Ytpiapgjiaeddjaa

set_option linter.unusedVariables false
namespace Go.Proofs.Ytpiapgjiaeddjaa
open Go.RowKit Go.Maps Go.Deep

set_option maxHeartbeats 3200000 in
theorem heldIntS_row (w : World) (b off cap : Nat) (ts : List Int) (k : Nat) (hk : k ≤ 1000000000000000) (hl : ts.length ≤ 1048576) (hb : b < w.heap.size) (hc : IntsAt w b off (marksIntS k ts)) :
    Calls Try.prog 12 #[.slice (some ⟨b, off, none⟩) ts.length cap, .int .i64 (k : Int)] w fun e w' => e = .returned (.int .i64 ((k + ts.length : Nat) : Int)) ∧ Below w.heap.size w w' := by
  have HC := hide (show ∀ j, j < ts.length → w.cell? ⟨b, off + j, none⟩ = some (.int .i64 ((k + j : Nat) : Int)) from fun j hj => by
    have hj' : j < (marksIntS k ts).length := by rw [marksIntS_len]; exact hj
    have := hc j hj'
    simpa [marksIntS] using this)
  clear hc
  generalize ts.length = n at *
  go_enter Try.func12, Try.ntmps12
  go_wp2_with fail
  go_loopw [1, 5] (fun kv i wr => ∃ j : Nat, j ≤ n ∧ i = .int .i64 j ∧ kv = .int .i64 ((k + j : Nat) : Int) ∧ Hid (Below w.heap.size w wr)) (fun _ i _ => n - (intOf i).toNat)
  case atStart => exact ⟨0, Nat.zero_le _, rfl, rfl, hide (Below.refl _ _)⟩
  case round =>
    obtain ⟨j, hj, rfl, rfl, HB⟩ := hrel
    by_cases hlt : j < n
    · have c0 := ((unhide HB).cell (show b < w.heap.size from hb)).trans (unhide HC j hlt)
      have hK1 : (0 : Int) ≤ ((k + j : Nat) : Int) := by omega
      have hK2 : ((k + j : Nat) : Int) ≤ 10000000000000000 := by omega
      have HKE := hide (show (((k + j : Nat) : Int) + 1 : Int) = ((k + (j + 1) : Nat) : Int) by omega)
      generalize ((k + j : Nat) : Int) = K at *
      go_wp2_with fail
      clear c0
      go_roundw
      case rel => exact ⟨j + 1, by omega, by go_num, by rw [unhide HKE], HB⟩
      case measure => simp [intOf]; omega
    · have e : j = n := by omega
      subst e
      go_wp2_with fail
      go_ret
      exact ⟨rfl, unhide HB⟩
theorem heldIntS_none (w : World) (a : Option Addr) (cap : Nat) (K : Int) : Calls Try.prog 12 #[.slice a 0 cap, .int .i64 K] w fun e w' => e = .returned (.int .i64 K) ∧ w' = w := by
  go_enter Try.func12, Try.ntmps12
  go_wp2
  refine wp_loop_rounds 1 ?_
  rw [rounds_succ]
  go_wp2
  go_ret
  exact ⟨rfl, rfl⟩
theorem heldIntS_kit (ts : List Int) (v : Value) (w : World) (k n : Nat) (K : Int) (hK : K = (k : Int)) (hn : nIntS ts = n) (hk : k ≤ 1000000000000000) (hs : SmallIntS ts) (h : IntSRd w v (marksIntS k ts)) :
    Calls Try.prog 12 #[v, .int .i64 K] w fun e w' => e = .returned (.int .i64 (K + (n : Int))) ∧ Below w.heap.size w w' := by
  subst hK hn
  obtain ⟨a, c, rfl, h⟩ := h
  rw [marksIntS_len]
  rcases h with h0 | ⟨b, off, rfl, hb, hc⟩
  · have hn : ts = [] := List.eq_nil_of_length_eq_zero (by have := congrArg List.length h0; rwa [marksIntS_len] at this)
    subst hn
    refine (heldIntS_none w a c k).mono ?_
    rintro e w' ⟨rfl, rfl⟩
    exact ⟨by simp [nIntS], Below.refl _ _⟩
  · refine (heldIntS_row w b off c ts k hk hs.1 hb hc).mono ?_
    rintro e w' ⟨rfl, b⟩
    exact ⟨by rw [show ((k + ts.length : Nat) : Int) = (k : Int) + ((nIntS ts : Nat) : Int) by unfold nIntS; omega], b⟩
end Go.Proofs.Ytpiapgjiaeddjaa

set_option linter.unusedVariables false
namespace Go.Proofs.Ytpiapgjiaeddjaa
open Go.RowKit Go.Maps Go.Deep

theorem cellsOfItem : Try.prog.cellsOf 51 = 2 := by kernel_rfl
theorem cellsMkItem : Try.prog.cellsOf 49 = 1 := by kernel_rfl
set_option maxRecDepth 20000 in
theorem openItemS {H : Type} {enc : TypeId × Value → H} {w : World} {base : Nat} {spare : Nat → Bool} {held : Bool} {a : Option Addr} {len cap : Nat} {d : DataW H} {p : List MemPlace}
    (h : DataW.Trod enc Try.prog w base spare held 35 (.slice a len cap) d p) :
    ∃ ns : List ItemV, ns.length = len ∧ len ≤ maxLen ∧ ItemIn w a ns ∧ ∀ x ∈ ns, ItemFit x := by
  obtain ⟨fuel, hf⟩ := h
  rcases open_slice Try.underlying35 hf with ⟨hcs, _⟩ | ⟨a', len', cap', m, n, D, Pl, hcs, hb, hl, hm, hmm, _, hx⟩
  · simp [Value.cells] at hcs
    obtain ⟨rfl, rfl, rfl⟩ := hcs
    exact ⟨[], rfl, by unfold maxLen; omega, .inl rfl, fun _ h => by cases h⟩
  · simp [Value.cells] at hcs
    obtain ⟨rfl, rfl, rfl⟩ := hcs
    have hlm : len ≤ m := by rw [hmm]; split <;> omega
    have each : ∀ i, i < len → ∃ q : Int × List MarkV, w.cell? (a'.add (i * 2)) = some (.int .i64 (q.1)) ∧ (∃ v, w.cell? (a'.add (i * 2 + 1)) = some v ∧ MarkSRd w v q.2) ∧ ItemFit ⟨q.1, q.2⟩ := by
      intro i hi
      obtain ⟨cs', h1, h2⟩ := hx i (by omega)
      rw [cellsOfItem] at h1
      obtain ⟨_, hlen, hcell⟩ := World.cells?_some h1
      obtain ⟨xs, k, hk, hxy, _, hxl, hf⟩ := DataW.trod_struct Try.underlying51 h2
      match xs, hxl, cs', hlen with
      | [y0, y1], _, [v0, v1], _ =>
        have g0 := hf 0 _ rfl
        have g1 := hf 1 _ rfl
        simp [cellsIMark, cellsMkItem] at g0 g1
        obtain ⟨n0, e0, _, hs0⟩ := DataW.trod_int Try.underlying3 g0
        simp at e0
        subst e0
        have hv1 : ∃ a1 l1 c1, v1 = .slice a1 l1 c1 := by
          rcases open_slice Try.underlying49 g1 with ⟨hcs, _⟩ | ⟨a1, l1, c1, _, _, _, _, hcs, _⟩
          · simp at hcs; exact ⟨_, _, _, hcs⟩
          · simp at hcs; exact ⟨_, _, _, hcs⟩
        obtain ⟨a1, l1, c1, rfl⟩ := hv1
        obtain ⟨ms, rfl, hml, hmi, hmo⟩ := openMarkS ⟨_, g1⟩
        have c0 := hcell 0 (by omega)
        have c1' := hcell 1 (by omega)
        rw [add_add] at c0 c1'
        exact ⟨(n0, ms), by simpa using c0, ⟨_, by simpa using c1', a1, c1, rfl, hmi⟩, ⟨markRange hs0, hml, hmo⟩⟩
    have hin : Inhabited (Int × List MarkV) := ⟨(0, [])⟩
    obtain ⟨q, hq⟩ := choose_lt each
    refine ⟨(List.range len).map fun i => ⟨(q i).1, (q i).2⟩, by simp, by omega, ?_, ?_⟩
    · by_cases h0 : len = 0
      · subst h0; exact .inl (by simp)
      · have hc0 := (hq 0 (by omega)).1
        obtain ⟨b, off, spot⟩ := a'
        have hspot : spot = none := by simpa [Addr.add] using World.cell?_spot hc0
        subst hspot
        refine .inr ⟨b, off, rfl, ?_, ?_⟩
        · exact lt_of_cellMark (by simpa [Addr.add] using hc0)
        · intro i hi
          have hi' : i < len := by simpa using hi
          obtain ⟨c0, ⟨v, c1, hv⟩, _⟩ := hq i hi'
          simp only [List.getElem_map, List.getElem_range]
          refine ⟨?_, v, ?_, hv⟩
          · by_cases e : i = 0
            · subst e; simpa [Addr.add] using c0
            · have e4 : ¬ i * 2 = 0 := by omega
              simpa [Addr.add, e4] using c0
          · simpa [Addr.add, Nat.add_assoc] using c1
    · intro x hx
      simp at hx
      obtain ⟨i, hi, rfl⟩ := hx
      exact (hq i hi).2.2
end Go.Proofs.Ytpiapgjiaeddjaa

set_option linter.unusedVariables false
namespace Go.Proofs.Ytpiapgjiaeddjaa
open Go.RowKit Go.Maps Go.Deep

theorem cellsItemS : Try.prog.cellsOf 35 = 1 := by kernel_rfl
set_option maxRecDepth 20000 in
theorem openItemSS {H : Type} {enc : TypeId × Value → H} {w : World} {base : Nat} {spare : Nat → Bool} {held : Bool} {a : Option Addr} {len cap : Nat} {d : DataW H} {p : List MemPlace}
    (h : DataW.Trod enc Try.prog w base spare held 22 (.slice a len cap) d p) :
    ∃ ns : List (List ItemV), ns.length = len ∧ len ≤ maxLen ∧ WinsIn w a ns ∧ ∀ x ∈ ns, ItemSFit x := by
  obtain ⟨fuel, hf⟩ := h
  rcases open_slice Try.underlying22 hf with ⟨hcs, _⟩ | ⟨a', len', cap', m, n, D, Pl, hcs, hb, hl, hm, hmm, _, hx⟩
  · simp [Value.cells] at hcs
    obtain ⟨rfl, rfl, rfl⟩ := hcs
    exact ⟨[], rfl, by unfold maxLen; omega, .inl rfl, fun _ h => by cases h⟩
  · simp [Value.cells] at hcs
    obtain ⟨rfl, rfl, rfl⟩ := hcs
    have hlm : len ≤ m := by rw [hmm]; split <;> omega
    have each : ∀ i, i < len → ∃ q : List ItemV, (∃ v, w.cell? (a'.add i) = some v ∧ ItemSRd w v q) ∧ ItemSFit q := by
      intro i hi
      obtain ⟨cs', h1, h2⟩ := hx i (by omega)
      rw [cellsItemS] at h1
      obtain ⟨_, hlen, hcell⟩ := World.cells?_some h1
      match cs', hlen with
      | [v0], _ =>
        have hv0 : ∃ a1 l1 c1, v0 = .slice a1 l1 c1 := by
          rcases open_slice Try.underlying35 h2 with ⟨hcs, _⟩ | ⟨a1, l1, c1, _, _, _, _, hcs, _⟩
          · simp at hcs; exact ⟨_, _, _, hcs⟩
          · simp at hcs; exact ⟨_, _, _, hcs⟩
        obtain ⟨a1, l1, c1, rfl⟩ := hv0
        obtain ⟨ms, rfl, hml, hmi, hmo⟩ := openItemS ⟨_, h2⟩
        have c0 := hcell 0 (by omega)
        rw [add_add] at c0
        exact ⟨ms, ⟨_, by simpa using c0, a1, c1, rfl, hmi⟩, hml, hmo⟩
    have hin : Inhabited (List ItemV) := ⟨[]⟩
    obtain ⟨q, hq⟩ := choose_lt each
    refine ⟨(List.range len).map q, by simp, by omega, ?_, ?_⟩
    · by_cases h0 : len = 0
      · subst h0; exact .inl (by simp)
      · obtain ⟨⟨v, hc0, _⟩, _⟩ := hq 0 (by omega)
        obtain ⟨b, off, spot⟩ := a'
        have hspot : spot = none := by simpa [Addr.add] using World.cell?_spot hc0
        subst hspot
        refine .inr ⟨b, off, rfl, ?_, ?_⟩
        · exact lt_of_cellMark (by simpa [Addr.add] using hc0)
        · intro i hi
          have hi' : i < len := by simpa using hi
          obtain ⟨⟨v, c0, hv⟩, _⟩ := hq i hi'
          simp only [List.getElem_map, List.getElem_range]
          refine ⟨v, ?_, hv⟩
          by_cases e : i = 0
          · subst e; simpa [Addr.add] using c0
          · simpa [Addr.add, e] using c0
    · intro x hx
      simp at hx
      obtain ⟨i, hi, rfl⟩ := hx
      exact (hq i hi).2
end Go.Proofs.Ytpiapgjiaeddjaa
