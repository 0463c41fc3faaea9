/-
  Lists of ints in memory, and the law's own helpers over them: how they are copied, compared, and how one that comes in is opened. (Made out of StrRows.)
-/
/-
  Windows: the program's ring: the place of an item.
-/
import Derived.Test.YtpiapgjiaeddjaaMerged1
import Derived.Test.YtpiapgjiaeddjaaMerged14
import Derived.Test.YtpiapgjiaeddjaaMarkRows
import Derived.Test.YtpiapgjiaeddjaaMerged6
import Derived.Deep.RegionHeld3
import Derived.Deep.RegionWith
import Derived.Deep.Slices
import Derived.ProofKit
import Derived.OpenShut
import Derived.Handy
set_option linter.unusedVariables false
namespace Go.Proofs.Ytpiapgjiaeddjaa
open Go.RowKit Go.Maps Go.Deep Go.ChangeShapes Go.WideShapes Go.ChangeAt

def IntsAt (w : World) (b off : Nat) (ts : List Int) : Prop := ∀ i (h : i < ts.length), w.cell? ⟨b, off + i, none⟩ = some (.int .i64 ts[i])
def IntsIn (w : World) (a : Option Addr) (ts : List Int) : Prop := ts = [] ∨ ∃ b off, a = some ⟨b, off, none⟩ ∧ b < w.heap.size ∧ IntsAt w b off ts
def IntsOk (ts : List Int) : Prop := ∀ t ∈ ts, IntFit t
def IntSRd (w : World) (v : Value) (ts : List Int) : Prop := ∃ a c, v = .slice a ts.length c ∧ IntsIn w a ts
def IntSOwn (S : List Nat) (w : World) (v : Value) (ts : List Int) : Prop :=
  (S = [] ∧ ts = [] ∧ ∃ a c, v = .slice a 0 c) ∨ ∃ b off cap, S = [b] ∧ v = .slice (some ⟨b, off, none⟩) ts.length cap ∧ b < w.heap.size ∧ IntsAt w b off ts ∧ ∀ i, i < ts.length → w.frozen? ⟨b, off + i, none⟩ = false
theorem IntsAt.below {w w' : World} {B b off : Nat} {ts : List Int} (h : IntsAt w b off ts) (hb : Below B w w') (hB : b < B) : IntsAt w' b off ts := fun i hi => (hb.cell (by exact hB)).trans (h i hi)
theorem IntsAt.turn {w w' : World} {S : List Nat} {b off : Nat} {ts : List Int} (h : IntsAt w b off ts) (ht : Turn S w w') (hb : b < w.heap.size) (hS : b ∉ S) : IntsAt w' b off ts := fun i hi => (ht.cell hb hS).trans (h i hi)
theorem IntsIn.below {w w' : World} {a : Option Addr} {ts : List Int} (h : IntsIn w a ts) (hb : Below w.heap.size w w') : IntsIn w' a ts := by
  rcases h with h | ⟨b, off, e, hb', hc⟩
  · exact .inl h
  · exact .inr ⟨b, off, e, Nat.lt_of_lt_of_le hb' hb.size, hc.below hb hb'⟩
theorem IntSRd.up {w w' : World} {v : Value} {ts : List Int} (h : IntSRd w v ts) (hb : Below w.heap.size w w') : IntSRd w' v ts := by
  obtain ⟨a, c, e, h⟩ := h
  exact ⟨a, c, e, h.below hb⟩
theorem IntSRd.form {w : World} {v : Value} {ts : List Int} (h : IntSRd w v ts) : ∃ a n c, v = .slice a n c := by
  obtain ⟨a, c, e, _⟩ := h
  exact ⟨a, _, c, e⟩
theorem IntSOwn.rd {S : List Nat} {w : World} {v : Value} {ts : List Int} (h : IntSOwn S w v ts) : IntSRd w v ts := by
  rcases h with ⟨_, rfl, a, c, rfl⟩ | ⟨b, off, cap, _, rfl, hb, hc, _⟩
  · exact ⟨a, c, rfl, .inl rfl⟩
  · exact ⟨_, cap, rfl, .inr ⟨b, off, rfl, hb, hc⟩⟩
theorem IntSOwn.turn {S S' : List Nat} {w w' : World} {v : Value} {ts : List Int} (h : IntSOwn S w v ts) (ht : Turn S' w w') (hS : ∀ k ∈ S, k ∉ S') : IntSOwn S w' v ts := by
  rcases h with h | ⟨b, off, cap, rfl, rfl, hb, hc, hf⟩
  · exact .inl h
  · have hn := hS b (by simp)
    exact .inr ⟨b, off, cap, rfl, rfl, Nat.lt_of_lt_of_le hb ht.size, hc.turn ht hb hn, fun i hi => (ht.frozen hb hn).trans (hf i hi)⟩
theorem IntSOwn.up {S : List Nat} {w w' : World} {v : Value} {ts : List Int} (h : IntSOwn S w v ts) (hb : Below w.heap.size w w') : IntSOwn S w' v ts := h.turn (Turn.of_below (S := []) hb) (by simp)
theorem IntSOwn.lt {S : List Nat} {w : World} {v : Value} {ts : List Int} (h : IntSOwn S w v ts) : ∀ k ∈ S, k < w.heap.size := by
  rcases h with ⟨rfl, _⟩ | ⟨b, off, cap, rfl, rfl, hb, _⟩
  · simp
  · simpa using hb
def SmallIntS (ts : List Int) : Prop := ts.length ≤ 1048576 ∧ IntsOk ts
def IntSFit (ts : List Int) : Prop := ts.length ≤ maxLen ∧ IntsOk ts
def nIntS (ts : List Int) : Nat := ts.length
theorem nIntS_le {ts : List Int} (h : SmallIntS ts) : nIntS ts ≤ 100000000 := by have := h.1; unfold nIntS; omega
theorem infoInt : (Try.prog.info? 3).map (fun i => (i.zero, i.size, i.bytes)) = some (some (.int .i64 0), 1, 8) := by kernel_rfl
theorem intRow_cell {w : World} {B g n : Nat} {xs : List Value} (h : w.ownsRow B 3 1 (.slice (some ⟨g, 0, none⟩) n n) n xs) (k : Nat) (hk : k < n) : ∃ v0, w.cell? ⟨g, k, none⟩ = some v0 ∧ w.frozen? ⟨g, k, none⟩ = false := by
  have hx := h.1
  refine ⟨xs[k]'(by omega), ?_, h.frozenAt _⟩
  rw [h.cellAt _ (by omega)]
  exact List.getElem?_eq_getElem _
set_option maxHeartbeats 1600000 in
theorem eqIntS_row (w : World) (b off cap b' off' cap' : Nat) (ts : List Int) (hl : ts.length ≤ 1048576) (hc : IntsAt w b off ts) (hc' : IntsAt w b' off' ts) (hb : b < w.heap.size) (hb' : b' < w.heap.size) :
    Calls Try.prog 8 #[.slice (some ⟨b, off, none⟩) ts.length cap, .slice (some ⟨b', off', none⟩) ts.length cap'] w fun e w' => e = .returned (.bool true) ∧ Below w.heap.size w w' := by
  have HC := hide hc
  have HC' := hide hc'
  clear hc hc'
  go_enter Try.func8, Try.ntmps8
  go_wp2_with fail
  go_loopw [5] (fun i wr => ∃ (k : Nat), k ≤ ts.length ∧ i = .int .i64 k ∧ Hid (Below w.heap.size w wr)) (fun i _ => ts.length - (intOf i).toNat)
  case atStart => exact ⟨0, Nat.zero_le _, rfl, Below.refl _ _⟩
  case round =>
    obtain ⟨k, hk, rfl, HB⟩ := hrel
    by_cases hlt : k < ts.length
    · have c0 := ((unhide HB).cell (show b < w.heap.size from hb)).trans (unhide HC k hlt)
      have c1 := ((unhide HB).cell (show b' < w.heap.size from hb')).trans (unhide HC' k hlt)
      generalize ts[k] = t at c0 c1
      go_wp2_with fail
      go_quiet (fail)
      have HBD := hide ((unhide HB).trans ((belowN wr nq).mono (unhide HB).size))
      clear c0 c1
      go_wp2_with fail
      go_roundw
      case rel => exact ⟨k + 1, by omega, by go_num, HBD⟩
      case measure => simp [intOf]; omega
    · go_wp2_with fail
      go_ret
      exact ⟨rfl, unhide HB⟩
theorem eqIntS_none (w : World) (a a' : Option Addr) (cap cap' : Nat) : Calls Try.prog 8 #[.slice a 0 cap, .slice a' 0 cap'] w fun e w' => e = .returned (.bool true) ∧ Below w.heap.size w w' := by
  go_enter Try.func8, Try.ntmps8
  go_wp2
  refine wp_loop_rounds 1 ?_
  rw [rounds_succ]
  go_wp2
  go_ret
  exact ⟨rfl, Below.refl _ _⟩
theorem eqIntS_kit (ts : List Int) (v v' : Value) (w : World) (hs : SmallIntS ts) (h : IntSRd w v ts) (h' : IntSRd w v' ts) :
    Calls Try.prog 8 #[v, v'] w fun e w' => e = .returned (.bool true) ∧ Below w.heap.size w w' := by
  obtain ⟨a, c, rfl, h⟩ := h
  obtain ⟨a', c', rfl, h'⟩ := h'
  rcases h with rfl | ⟨b, off, rfl, hb, hc⟩
  · exact eqIntS_none w a a' c c'
  · rcases h' with rfl | ⟨b', off', rfl, hb', hc'⟩
    · exact eqIntS_none w _ a' c c'
    · exact eqIntS_row w b off c b' off' c' ts hs.1 hc hc' hb hb'
theorem small_of_lenI {w : World} {a : Option Addr} {n c : Nat} {ts : List Int} (hf : IntSFit ts) (h : IntSRd w (.slice a n c) ts) (hl : (n : Int) ≤ 1048576) : SmallIntS ts := by
  obtain ⟨a', c', e, _⟩ := h
  simp only [Value.slice.injEq] at e
  exact ⟨by omega, hf.2⟩
theorem cellsIntS : Try.prog.cellsOf 3 = 1 := by kernel_rfl
theorem openIntS {H : Type} {enc : TypeId × Value → H} {w : World} {base : Nat} {spare : Nat → Bool} {held : Bool} {a : Option Addr} {len cap : Nat} {d : DataW H} {p : List MemPlace}
    (h : DataW.Trod enc Try.prog w base spare held 24 (.slice a len cap) d p) :
    ∃ ns : List Int, ns.length = len ∧ len ≤ maxLen ∧ IntsIn w a ns ∧ IntsOk ns := by
  obtain ⟨fuel, hf⟩ := h
  rcases open_slice Try.underlying24 hf with ⟨hcs, _⟩ | ⟨a', len', cap', m, n, D, Pl, hcs, hb, hl, hm, hmm, _, hx⟩
  · simp [Value.cells] at hcs
    obtain ⟨rfl, rfl, rfl⟩ := hcs
    exact ⟨[], rfl, by unfold maxLen; omega, .inl rfl, fun _ h => by cases h⟩
  · simp [Value.cells] at hcs
    obtain ⟨rfl, rfl, rfl⟩ := hcs
    have hlm : len ≤ m := by rw [hmm]; split <;> omega
    have each : ∀ i, i < len → ∃ q : Int, w.cell? (a'.add i) = some (.int .i64 q) ∧ IntFit q := by
      intro i hi
      obtain ⟨cs', h1, h2⟩ := hx i (by omega)
      rw [cellsIntS] at h1
      obtain ⟨_, hlen, hcell⟩ := World.cells?_some h1
      obtain ⟨n0, e0, _, hs0⟩ := DataW.trod_int Try.underlying3 h2
      subst e0
      have c0 := hcell 0 (by omega)
      rw [add_add] at c0
      exact ⟨n0, by simpa using c0, markRange hs0⟩
    have hin : Inhabited Int := ⟨0⟩
    obtain ⟨q, hq⟩ := choose_lt each
    refine ⟨(List.range len).map q, by simp, by omega, ?_, ?_⟩
    · by_cases h0 : len = 0
      · subst h0; exact .inl (by simp)
      · obtain ⟨hc0, _⟩ := hq 0 (by omega)
        obtain ⟨b, off, spot⟩ := a'
        have hspot : spot = none := by simpa [Addr.add] using World.cell?_spot hc0
        subst hspot
        refine .inr ⟨b, off, rfl, ?_, ?_⟩
        · exact lt_of_cellMark (by simpa [Addr.add] using hc0)
        · intro i hi
          have hi' : i < len := by simpa using hi
          obtain ⟨c0, _⟩ := hq i hi'
          simp only [List.getElem_map, List.getElem_range]
          by_cases e : i = 0
          · subst e; simpa [Addr.add] using c0
          · simpa [Addr.add, e] using c0
    · intro x hx
      simp at hx
      obtain ⟨i, hi, rfl⟩ := hx
      exact (hq i hi).2
end Go.Proofs.Ytpiapgjiaeddjaa

set_option linter.unusedVariables false
namespace Go.Proofs.Ytpiapgjiaeddjaa
open Go.RowKit Go.Maps

set_option maxHeartbeats 1600000 in
theorem slot_any (w : World) (g st at' : Nat) (h : w.cell? ⟨g, 8, none⟩ = some (.int .i64 (st : Int))) (h0 : st < 4) (h1 : at' ≤ 4) :
    Calls Try.prog 87 #[.pointer (some ⟨g, 0, none⟩), .int .i64 (at' : Int)] w fun e w' => e = .returned (.int .i64 (((st + at') % 4 : Nat) : Int)) ∧ w' = w := by
  have ht : Int.tmod ((st : Int) + (at' : Int)) 4 = (((st + at') % 4 : Nat) : Int) := by rw [Int.tmod_eq_emod_of_nonneg (by omega)]; omega
  go_enter Try.func87, Try.ntmps87
  go_wp2_with fail
  go_ret
  exact ⟨by simp, rfl⟩
end Go.Proofs.Ytpiapgjiaeddjaa
