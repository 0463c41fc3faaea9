/-
  Lists of ints in memory, and the law's own helpers over them: how they are copied, compared, and how one that comes in is opened. (Made out of StrRows.)
-/
import Derived.Test.YtnijccmhajjdoaaBytes
import Derived.Test.YtnijccmhajjdoaaByArg
import Derived.Test.YtnijccmhajjdoaaMarkRows
import Derived.Test.YtnijccmhajjdoaaMerged3
import Derived.Test.YtnijccmhajjdoaaBoxes
import Derived.Deep.RegionHeld3
import Derived.Deep.RegionWith
import Derived.Deep.Slices
import Derived.ProofKit
import Derived.OpenShut
set_option linter.unusedVariables false
namespace Go.Proofs.Ytnijccmhajjdoaa
open Go.RowKit Go.Maps Go.Deep Go.ChangeShapes Go.WideShapes Go.ChangeAt

def IntsAt (w : World) (b off : Nat) (ts : List Int) : Prop := ∀ i (h : i < ts.length), w.cell? ⟨b, off + i, none⟩ = some (.int .i64 ts[i])
def IntsIn (w : World) (a : Option Addr) (ts : List Int) : Prop := ts = [] ∨ ∃ b off, a = some ⟨b, off, none⟩ ∧ b < w.heap.size ∧ IntsAt w b off ts
def IntsOk (ts : List Int) : Prop := ∀ t ∈ ts, IntFit t
def IntSRd (w : World) (v : Value) (ts : List Int) : Prop := ∃ a c, v = .slice a ts.length c ∧ IntsIn w a ts
def IntSOwn (S : List Nat) (w : World) (v : Value) (ts : List Int) : Prop :=
  (S = [] ∧ ts = [] ∧ ∃ a c, v = .slice a 0 c) ∨ ∃ b off cap, S = [b] ∧ v = .slice (some ⟨b, off, none⟩) ts.length cap ∧ b < w.heap.size ∧ IntsAt w b off ts ∧ ∀ i, i < ts.length → w.frozen? ⟨b, off + i, none⟩ = false
theorem IntsAt.below {w w' : World} {B b off : Nat} {ts : List Int} (h : IntsAt w b off ts) (hb : Below B w w') (hB : b < B) : IntsAt w' b off ts := fun i hi => (hb.cell (by exact hB)).trans (h i hi)
theorem IntsAt.turn {w w' : World} {S : List Nat} {b off : Nat} {ts : List Int} (h : IntsAt w b off ts) (ht : Turn S w w') (hb : b < w.heap.size) (hS : b ∉ S) : IntsAt w' b off ts := fun i hi => (ht.cell hb hS).trans (h i hi)
theorem IntsIn.below {w w' : World} {a : Option Addr} {ts : List Int} (h : IntsIn w a ts) (hb : Below w.heap.size w w') : IntsIn w' a ts := by
  rcases h with h | ⟨b, off, e, hb', hc⟩
  · exact .inl h
  · exact .inr ⟨b, off, e, Nat.lt_of_lt_of_le hb' hb.size, hc.below hb hb'⟩
theorem IntSRd.up {w w' : World} {v : Value} {ts : List Int} (h : IntSRd w v ts) (hb : Below w.heap.size w w') : IntSRd w' v ts := by
  obtain ⟨a, c, e, h⟩ := h
  exact ⟨a, c, e, h.below hb⟩
theorem IntSRd.form {w : World} {v : Value} {ts : List Int} (h : IntSRd w v ts) : ∃ a n c, v = .slice a n c := by
  obtain ⟨a, c, e, _⟩ := h
  exact ⟨a, _, c, e⟩
theorem IntSOwn.rd {S : List Nat} {w : World} {v : Value} {ts : List Int} (h : IntSOwn S w v ts) : IntSRd w v ts := by
  rcases h with ⟨_, rfl, a, c, rfl⟩ | ⟨b, off, cap, _, rfl, hb, hc, _⟩
  · exact ⟨a, c, rfl, .inl rfl⟩
  · exact ⟨_, cap, rfl, .inr ⟨b, off, rfl, hb, hc⟩⟩
theorem IntSOwn.turn {S S' : List Nat} {w w' : World} {v : Value} {ts : List Int} (h : IntSOwn S w v ts) (ht : Turn S' w w') (hS : ∀ k ∈ S, k ∉ S') : IntSOwn S w' v ts := by
  rcases h with h | ⟨b, off, cap, rfl, rfl, hb, hc, hf⟩
  · exact .inl h
  · have hn := hS b (by simp)
    exact .inr ⟨b, off, cap, rfl, rfl, Nat.lt_of_lt_of_le hb ht.size, hc.turn ht hb hn, fun i hi => (ht.frozen hb hn).trans (hf i hi)⟩
theorem IntSOwn.up {S : List Nat} {w w' : World} {v : Value} {ts : List Int} (h : IntSOwn S w v ts) (hb : Below w.heap.size w w') : IntSOwn S w' v ts := h.turn (Turn.of_below (S := []) hb) (by simp)
theorem IntSOwn.lt {S : List Nat} {w : World} {v : Value} {ts : List Int} (h : IntSOwn S w v ts) : ∀ k ∈ S, k < w.heap.size := by
  rcases h with ⟨rfl, _⟩ | ⟨b, off, cap, rfl, rfl, hb, _⟩
  · simp
  · simpa using hb
def SmallIntS (ts : List Int) : Prop := ts.length ≤ 1048576 ∧ IntsOk ts
def IntSFit (ts : List Int) : Prop := ts.length ≤ maxLen ∧ IntsOk ts
def nIntS (ts : List Int) : Nat := ts.length
theorem nIntS_le {ts : List Int} (h : SmallIntS ts) : nIntS ts ≤ 100000000 := by have := h.1; unfold nIntS; omega
theorem infoInt : (Try.prog.info? 3).map (fun i => (i.zero, i.size, i.bytes)) = some (some (.int .i64 0), 1, 8) := by kernel_rfl
theorem intRow_cell {w : World} {B g n : Nat} {xs : List Value} (h : w.ownsRow B 3 1 (.slice (some ⟨g, 0, none⟩) n n) n xs) (k : Nat) (hk : k < n) : ∃ v0, w.cell? ⟨g, k, none⟩ = some v0 ∧ w.frozen? ⟨g, k, none⟩ = false := by
  have hx := h.1
  refine ⟨xs[k]'(by omega), ?_, h.frozenAt _⟩
  rw [h.cellAt _ (by omega)]
  exact List.getElem?_eq_getElem _
set_option maxHeartbeats 1600000 in
theorem toIntS_row (w : World) (b off cap : Nat) (ts : List Int) (hl : ts.length ≤ 1048576) (hc : IntsAt w b off ts) (hb : b < w.heap.size) :
    Calls Try.prog 11 #[.slice (some ⟨b, off, none⟩) ts.length cap] w fun e w' => e = .returned (.slice (some ⟨w.heap.size, 0, none⟩) ts.length ts.length) ∧ w'.ownsRow w.heap.size 3 1 (.slice (some ⟨w.heap.size, 0, none⟩) ts.length ts.length) ts.length (ts.map (.int .i64)) ∧ w.heap.size < w'.heap.size ∧ Below w.heap.size w w' := by
  obtain ⟨i0, hi, hz0, hz1, hz2⟩ := info_parts1 infoInt
  have HC := hide hc
  clear hc
  go_enter Try.func11, Try.ntmps11
  go_wp2_with (first
    | (at_make; refine wpList_make_full _ rfl _ _ 29 rfl w.heap.size 3 i0 _ 1 Try.underlying29 hi hz0 hz1 _ _ _ _ ts.length rfl rfl rfl rfl (by rw [hz2]; omega) (by unfold maxLen; omega) (Nat.le_refl _) ?_; intro w1 hown hgrow)
    | go_in)
  clear hz0 hz1 hz2 hi
  have hlt1 : w.heap.size < w1.heap.size := by
    rcases hown.2 with ⟨h', _⟩ | ⟨g', cap', cur, h', _, hg, _⟩
    · simp at h'
    · simp only [Value.slice.injEq, Option.some.injEq, Addr.mk.injEq, and_true, true_and] at h'
      obtain ⟨rfl, rfl⟩ := h'
      exact (Array.getElem?_eq_some_iff.1 hg).1
  have hbw1 : Below w.heap.size w w1 := (Below.refl _ _).grown hgrow (Nat.le_refl _) (fun k hk => by cases hk)
  go_loopw [4] (fun i wr => ∃ (k : Nat) (xs : List Value), k ≤ ts.length ∧ i = .int .i64 k ∧ Hid (wr.ownsRow w.heap.size 3 1 (.slice (some ⟨w.heap.size, 0, none⟩) ts.length ts.length) ts.length xs) ∧ Hid (∀ j (h : j < ts.length), j < k → xs[j]? = some (.int .i64 ts[j])) ∧ w.heap.size < wr.heap.size ∧ Hid (Below w.heap.size w wr)) (fun i _ => ts.length - (intOf i).toNat)
  case atStart => exact ⟨0, _, Nat.zero_le _, rfl, hown, fun j _ hj => absurd hj (Nat.not_lt_zero _), hlt1, hbw1⟩
  case round =>
    obtain ⟨k, xs, hk, rfl, HR, HT, hsz, HB⟩ := hrel
    by_cases hlt : k < ts.length
    · have c0 := ((unhide HB).cell (show b < w.heap.size from hb)).trans (unhide HC k hlt)
      obtain ⟨v0, d0, f0⟩ := intRow_cell (unhide HR) k hlt
      have HS := hide ((unhide HR).stored k (.int .i64 ts[k])).1
      have HS2 := hide (show ∀ j (h : j < ts.length), j < k + 1 → (xs.set k (.int .i64 ts[k]))[j]? = some (.int .i64 ts[j]) by
        intro j hj hjk
        have hx := (unhide HR).1
        by_cases e : k = j
        · subst e
          rw [List.getElem?_set_self (by omega)]
        · rw [List.getElem?_set_ne e]
          exact unhide HT j hj (by omega))
      have HBS := hide ((unhide HB).setCell (p := ⟨w.heap.size, k, none⟩) (Nat.le_refl _) (.int .i64 ts[k]))
      clear HT hown
      obtain ⟨t, ht⟩ : ∃ t, ts[k] = t := ⟨_, rfl⟩
      rw [ht] at c0 HS HBS HS2
      clear ht
      go_wp2_with fail
      clear d0 f0 c0
      go_roundw
      case rel => exact ⟨k + 1, _, by omega, by go_num, HS, HS2, by simpa using hsz, HBS⟩
      case measure => simp [intOf]; omega
    · have e : k = ts.length := by omega
      subst e
      have hxs : xs = ts.map (.int .i64) := by
        have hx := (unhide HR).1
        refine List.ext_getElem (by simpa using hx) fun j h1 h2 => ?_
        have := unhide HT j (by omega) (by omega)
        rw [List.getElem?_eq_getElem h1] at this
        simpa using this
      rw [hxs] at HR
      clear hxs
      go_wp2_with fail
      go_ret
      exact ⟨rfl, unhide HR, hsz, unhide HB⟩
set_option maxHeartbeats 800000 in
theorem toIntS_none (w : World) (a : Option Addr) (cap : Nat) :
    Calls Try.prog 11 #[.slice a 0 cap] w fun e w' => e = .returned (.slice (some ⟨w.heap.size, 0, none⟩) 0 0) ∧ w.heap.size < w'.heap.size ∧ Below w.heap.size w w' := by
  obtain ⟨i0, hi, hz0, hz1, hz2⟩ := info_parts1 infoInt
  go_enter Try.func11, Try.ntmps11
  go_wp2_with (first
    | (at_make; refine wpList_make_full _ rfl _ _ 29 rfl w.heap.size 3 i0 _ 1 Try.underlying29 hi hz0 hz1 _ _ _ _ 0 rfl rfl rfl rfl (by rw [hz2]; omega) (by unfold maxLen; omega) (Nat.le_refl _) ?_; intro w1 hown hgrow)
    | go_in)
  have hlt1 : w.heap.size < w1.heap.size := by
    rcases hown.2 with ⟨h', _⟩ | ⟨g', cap', cur, h', _, hg, _⟩
    · simp at h'
    · simp only [Value.slice.injEq, Option.some.injEq, Addr.mk.injEq, and_true, true_and] at h'
      obtain ⟨rfl, rfl⟩ := h'
      exact (Array.getElem?_eq_some_iff.1 hg).1
  have hbw1 : Below w.heap.size w w1 := (Below.refl _ _).grown hgrow (Nat.le_refl _) (fun k hk => by cases hk)
  clear hown hgrow
  refine wp_loop_rounds 1 ?_
  rw [rounds_succ]
  go_wp2
  go_ret
  exact ⟨rfl, hlt1, hbw1⟩
theorem toIntS_kit (ts : List Int) (v : Value) (w : World) (hs : SmallIntS ts) (h : IntSRd w v ts) :
    Calls Try.prog 11 #[v] w fun e w' => ∃ v S, e = .returned v ∧ Hid (IntSOwn S w' v ts) ∧ Hid (∀ k ∈ S, w.heap.size ≤ k) ∧ Below w.heap.size w w' := by
  obtain ⟨a, c, rfl, h⟩ := h
  rcases h with rfl | ⟨b, off, rfl, hb, hc⟩
  · refine (toIntS_none w a c).mono ?_
    rintro e w' ⟨rfl, h2, h3⟩
    exact ⟨_, [], rfl, .inl ⟨rfl, rfl, _, _, rfl⟩, hide (by simp), h3⟩
  · refine (toIntS_row w b off c ts hs.1 hc hb).mono ?_
    rintro e w' ⟨rfl, hr, h2, h3⟩
    refine ⟨_, [w.heap.size], rfl, .inr ⟨w.heap.size, 0, ts.length, rfl, rfl, h2, fun i hi => ?_, fun i _ => hr.frozenAt _⟩, hide (by simp), h3⟩
    rw [Nat.zero_add, hr.cellAt _ (by omega)]
    simp [hi]
set_option maxHeartbeats 1600000 in
theorem eqIntS_row (w : World) (b off cap b' off' cap' : Nat) (ts : List Int) (hl : ts.length ≤ 1048576) (hc : IntsAt w b off ts) (hc' : IntsAt w b' off' ts) (hb : b < w.heap.size) (hb' : b' < w.heap.size) :
    Calls Try.prog 14 #[.slice (some ⟨b, off, none⟩) ts.length cap, .slice (some ⟨b', off', none⟩) ts.length cap'] w fun e w' => e = .returned (.bool true) ∧ Below w.heap.size w w' := by
  have HC := hide hc
  have HC' := hide hc'
  clear hc hc'
  go_enter Try.func14, Try.ntmps14
  go_wp2_with fail
  go_loopw [5] (fun i wr => ∃ (k : Nat), k ≤ ts.length ∧ i = .int .i64 k ∧ Hid (Below w.heap.size w wr)) (fun i _ => ts.length - (intOf i).toNat)
  case atStart => exact ⟨0, Nat.zero_le _, rfl, Below.refl _ _⟩
  case round =>
    obtain ⟨k, hk, rfl, HB⟩ := hrel
    by_cases hlt : k < ts.length
    · have c0 := ((unhide HB).cell (show b < w.heap.size from hb)).trans (unhide HC k hlt)
      have c1 := ((unhide HB).cell (show b' < w.heap.size from hb')).trans (unhide HC' k hlt)
      generalize ts[k] = t at c0 c1
      go_wp2_with fail
      go_quiet (fail)
      have HBD := hide ((unhide HB).trans ((belowN wr nq).mono (unhide HB).size))
      clear c0 c1
      go_wp2_with fail
      go_roundw
      case rel => exact ⟨k + 1, by omega, by go_num, HBD⟩
      case measure => simp [intOf]; omega
    · go_wp2_with fail
      go_ret
      exact ⟨rfl, unhide HB⟩
theorem eqIntS_none (w : World) (a a' : Option Addr) (cap cap' : Nat) : Calls Try.prog 14 #[.slice a 0 cap, .slice a' 0 cap'] w fun e w' => e = .returned (.bool true) ∧ Below w.heap.size w w' := by
  go_enter Try.func14, Try.ntmps14
  go_wp2
  refine wp_loop_rounds 1 ?_
  rw [rounds_succ]
  go_wp2
  go_ret
  exact ⟨rfl, Below.refl _ _⟩
theorem eqIntS_kit (ts : List Int) (v v' : Value) (w : World) (hs : SmallIntS ts) (h : IntSRd w v ts) (h' : IntSRd w v' ts) :
    Calls Try.prog 14 #[v, v'] w fun e w' => e = .returned (.bool true) ∧ Below w.heap.size w w' := by
  obtain ⟨a, c, rfl, h⟩ := h
  obtain ⟨a', c', rfl, h'⟩ := h'
  rcases h with rfl | ⟨b, off, rfl, hb, hc⟩
  · exact eqIntS_none w a a' c c'
  · rcases h' with rfl | ⟨b', off', rfl, hb', hc'⟩
    · exact eqIntS_none w _ a' c c'
    · exact eqIntS_row w b off c b' off' c' ts hs.1 hc hc' hb hb'
theorem small_of_lenI {w : World} {a : Option Addr} {n c : Nat} {ts : List Int} (hf : IntSFit ts) (h : IntSRd w (.slice a n c) ts) (hl : (n : Int) ≤ 1048576) : SmallIntS ts := by
  obtain ⟨a', c', e, _⟩ := h
  simp only [Value.slice.injEq] at e
  exact ⟨by omega, hf.2⟩
theorem cellsIntS : Try.prog.cellsOf 3 = 1 := by kernel_rfl
theorem openIntS {H : Type} {enc : TypeId × Value → H} {w : World} {base : Nat} {spare : Nat → Bool} {held : Bool} {a : Option Addr} {len cap : Nat} {d : DataW H} {p : List MemPlace}
    (h : DataW.Trod enc Try.prog w base spare held 29 (.slice a len cap) d p) :
    ∃ ns : List Int, ns.length = len ∧ len ≤ maxLen ∧ IntsIn w a ns ∧ IntsOk ns := by
  obtain ⟨fuel, hf⟩ := h
  rcases open_slice Try.underlying29 hf with ⟨hcs, _⟩ | ⟨a', len', cap', m, n, D, Pl, hcs, hb, hl, hm, hmm, _, hx⟩
  · simp [Value.cells] at hcs
    obtain ⟨rfl, rfl, rfl⟩ := hcs
    exact ⟨[], rfl, by unfold maxLen; omega, .inl rfl, fun _ h => by cases h⟩
  · simp [Value.cells] at hcs
    obtain ⟨rfl, rfl, rfl⟩ := hcs
    have hlm : len ≤ m := by rw [hmm]; split <;> omega
    have each : ∀ i, i < len → ∃ q : Int, w.cell? (a'.add i) = some (.int .i64 q) ∧ IntFit q := by
      intro i hi
      obtain ⟨cs', h1, h2⟩ := hx i (by omega)
      rw [cellsIntS] at h1
      obtain ⟨_, hlen, hcell⟩ := World.cells?_some h1
      obtain ⟨n0, e0, _, hs0⟩ := DataW.trod_int Try.underlying3 h2
      subst e0
      have c0 := hcell 0 (by omega)
      rw [add_add] at c0
      exact ⟨n0, by simpa using c0, markRange hs0⟩
    have hin : Inhabited Int := ⟨0⟩
    obtain ⟨q, hq⟩ := choose_lt each
    refine ⟨(List.range len).map q, by simp, by omega, ?_, ?_⟩
    · by_cases h0 : len = 0
      · subst h0; exact .inl (by simp)
      · obtain ⟨hc0, _⟩ := hq 0 (by omega)
        obtain ⟨b, off, spot⟩ := a'
        have hspot : spot = none := by simpa [Addr.add] using World.cell?_spot hc0
        subst hspot
        refine .inr ⟨b, off, rfl, ?_, ?_⟩
        · exact lt_of_cellMark (by simpa [Addr.add] using hc0)
        · intro i hi
          have hi' : i < len := by simpa using hi
          obtain ⟨c0, _⟩ := hq i hi'
          simp only [List.getElem_map, List.getElem_range]
          by_cases e : i = 0
          · subst e; simpa [Addr.add] using c0
          · simpa [Addr.add, e] using c0
    · intro x hx
      simp at hx
      obtain ⟨i, hi, rfl⟩ := hx
      exact (hq i hi).2
end Go.Proofs.Ytnijccmhajjdoaa
