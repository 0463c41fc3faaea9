/-
  Lists of Ver in memory, and the law's own helpers over them: how much they hold, how they are copied, how two lists are compared, and how one that comes in is opened. (Made by wip/mkrow.py.)
-/
import Derived.Test.YtiebfcefmdiajaaDoorBytes
import Derived.Deep.RegionWith
import Derived.Deep.Slices
import Derived.ProofKit
import Derived.OpenShut
set_option linter.unusedVariables false
namespace Go.Proofs.YtiebfcefmdiajaaDoor
open Go.RowKit Go.Maps Go.Deep

structure VerV where
  a0 : ByteArray
  a1 : Int

/-- they lie one behind the other, from a place of a block on -/
def VerAt (w : World) (b off : Nat) (ns : List VerV) : Prop :=
  ∀ i (h : i < ns.length), w.cell? ⟨b, off + i * 2, none⟩ = some (.string (ns[i].a0)) ∧ w.cell? ⟨b, off + i * 2 + 1, none⟩ = some (.int .i64 (ns[i].a1))
def VerFit (x : VerV) : Prop := x.a0.size ≤ maxLen ∧ (-9223372036854775808 ≤ x.a1 ∧ x.a1 ≤ 9223372036854775807)
def VerOk (ns : List VerV) : Prop := ∀ x ∈ ns, VerFit x
/-- what the bound gives where it is not passed -/
def VerSmall (ns : List VerV) : Prop := ns.length ≤ 1048576 ∧ ∀ x ∈ ns, x.a0.size ≤ 1048576

/-- what is left, or less than nothing -/
def VerLeft (n0 : Nat) (left r : Int) : Prop := r ≤ left ∧ (0 ≤ r → (n0 : Int) ≤ left)
set_option maxHeartbeats 800000 in
theorem szVer_any (z0 : ByteArray) (z1 : Int) (left : Int) (w : World) (hs0 : z0.size ≤ maxLen) (h0 : 0 ≤ left) (h1 : left ≤ 1048576) :
    Calls Tryd.prog 18 #[.agg #[.string z0, .int .i64 z1], .int .i64 left] w fun e w' => ∃ r : Int, Hid (e = .returned (.int .i64 r)) ∧ Hid (VerLeft z0.size left r) ∧ Below w.heap.size w w' := by
  unfold maxLen at hs0
  by_cases g0 : left - (z0.size : Int) < 0
  · go_enter Tryd.func18, Tryd.ntmps18
    go_wp2
    go_ret
    exact ⟨-1, rfl, ⟨by omega, fun h => by omega⟩, (Below.refl _ _).alloc (Nat.le_refl _) _⟩
  · go_enter Tryd.func18, Tryd.ntmps18
    go_wp2
    go_ret
    exact ⟨_, rfl, ⟨by omega, fun _ => by omega⟩, (Below.refl _ _).alloc (Nat.le_refl _) _⟩

def RetVerSz (ns : List VerV) (left0 : Int) (e : Ending) : Prop := ∃ r : Int, e = .returned (.int .i64 r) ∧ r ≤ left0 ∧ (0 ≤ r → VerSmall ns)
set_option maxHeartbeats 1600000 in
theorem szVerS_any (w : World) (b off cap : Nat) (ns : List VerV) (left0 : Int) (hf0 : 0 ≤ left0) (hf1 : left0 ≤ 1048576) (hl : ns.length ≤ 9223372036854775807) (hc : VerAt w b off ns) (hb : b < w.heap.size) (hs : VerOk ns) :
    Calls Tryd.prog 9 #[.slice (some ⟨b, off, none⟩) ns.length cap, .int .i64 left0] w fun e w' => RetVerSz ns left0 e ∧ Below w.heap.size w w' := by
  have HS := hide hs
  clear hs
  by_cases hlen : (ns.length : Int) ≤ left0
  · go_enter Tryd.func9, Tryd.ntmps9
    go_wp2
    go_loopw [1, 5] (fun l i wr => ∃ (k : Nat) (left : Int), k ≤ ns.length ∧ i = .int .i64 k ∧ l = .int .i64 left ∧ 0 ≤ left ∧ left ≤ left0 ∧ (∀ j (h : j < ns.length), j < k → ns[j].a0.size ≤ 1048576) ∧ Below w.heap.size w wr) (fun _ i _ => ns.length - (intOf i).toNat)
    case atStart => exact ⟨0, _, Nat.zero_le _, rfl, rfl, by omega, by omega, fun j _ hj => absurd hj (Nat.not_lt_zero _), Below.refl _ _⟩
    case round =>
      obtain ⟨k, left, hk, rfl, rfl, hl0, hl1, hnames, hbel⟩ := hrel
      have HN := hide hnames
      clear hnames
      by_cases hlt : k < ns.length
      · obtain ⟨c0, c1⟩ := hc k hlt
        rw [← hbel.cell (by exact hb)] at c0 c1
        have HF := hide (unhide HS _ (List.getElem_mem hlt))
        obtain ⟨r, hr⟩ : ∃ r : Int, r = r := ⟨0, rfl⟩
        clear r hr
        go_wp2_with (first
          | (go_at_call 18; refine (szVer_any _ _ _ _ (unhide HF).1 hl0 (by omega)).mono ?_; rintro e w1 ⟨r, he, hr, hb1⟩; obtain rfl := unhide he; by_cases hneg : r < 0)
          | go_in)
        · go_ret
          exact ⟨⟨-1, rfl, by omega, fun h => by omega⟩, hbel.trans (hb1.mono hbel.size)⟩
        · have hr' := unhide hr
          have hr2 := hr'.2 (by omega)
          have hr1 := hr'.1
          clear hr' hr
          go_roundw
          case rel =>
            refine ⟨k + 1, _, by omega, by go_num, rfl, by omega, by omega, fun j h hj => ?_, hbel.trans (hb1.mono hbel.size)⟩
            by_cases e : j = k
            · subst e; omega
            · exact unhide HN j h (by omega)
          case measure => simp [intOf]; omega
      · go_wp2
        go_ret
        refine ⟨⟨_, rfl, by omega, fun _ => ⟨by omega, fun x hx => ?_⟩⟩, hbel⟩
        obtain ⟨j, hj, rfl⟩ := List.getElem_of_mem hx
        exact unhide HN j hj (by omega)
  · go_enter Tryd.func9, Tryd.ntmps9
    go_wp2
    go_ret
    exact ⟨⟨-1, rfl, by omega, fun h => by omega⟩, Below.refl _ _⟩

set_option maxHeartbeats 400000 in
theorem szVerS_none (w : World) (a : Option Addr) (cap : Nat) (left0 : Int) (hf0 : 0 ≤ left0) (hf1 : left0 ≤ 1048576) :
    Calls Tryd.prog 9 #[.slice a 0 cap, .int .i64 left0] w fun e w' => e = .returned (.int .i64 left0) ∧ w' = w := by
  go_enter Tryd.func9, Tryd.ntmps9
  go_wp2
  refine wp_loop_rounds 1 ?_
  rw [rounds_succ]
  go_wp2
  go_ret
  exact ⟨rfl, rfl⟩

set_option maxHeartbeats 800000 in
theorem toVer_any (z0 : ByteArray) (z1 : Int) (w : World) :
    Calls Tryd.prog 21 #[.agg #[.string z0, .int .i64 z1]] w fun e w' => e = .returned (.agg #[.string z0, .int .i64 z1]) ∧ Below w.heap.size w w' := by
  go_enter Tryd.func21, Tryd.ntmps21
  go_wp2
  exact bodyPost_ret (v := .agg #[.string z0, .int .i64 z1]) (by simp [results, Tryd.results21, go_sem]) rfl ⟨rfl, (((Below.refl _ _).alloc (Nat.le_refl _) _).alloc (by simp) _).alloc (by simp; omega) _⟩

theorem infoVer : (Tryd.prog.info? 37).map (fun i => (i.zero, i.size, i.bytes)) = some (some (.agg #[.string ByteArray.empty, .int .i64 0]), 2, 24) := by kernel_rfl

def VerTo (xs : List Value) (ns : List VerV) (k : Nat) : Prop :=
  ∀ i (h : i < ns.length), i < k → xs[i * 2]? = some (.string (ns[i].a0)) ∧ xs[i * 2 + 1]? = some (.int .i64 (ns[i].a1))
theorem verTo_step (xs : List Value) (ns : List VerV) (k : Nat) (hk : k < ns.length) (hx : xs.length = ns.length * 2) (h : VerTo xs ns k) :
    VerTo ((xs.set (k * 2) (.string (ns[k].a0))).set (k * 2 + 1) (.int .i64 (ns[k].a1))) ns (k + 1) := by
  intro i hi hik
  by_cases e : i = k
  · subst e
    simp [List.getElem?_set, hx]
    omega
  · obtain ⟨c0, c1⟩ := h i hi (by omega)
    refine ⟨?_, ?_⟩ <;> (repeat rw [List.getElem?_set_ne (by omega)]) <;> assumption

theorem ownsRowVer_below {w w' : World} {base B : Nat} {e : TypeId} {size : Nat} {g n cap : Nat} {xs : List Value} (h : w.ownsRow base e size (.slice (some ⟨g, 0, none⟩) n cap) n xs) (hb : Below B w w') (hg : g < B) :
    w'.ownsRow base e size (.slice (some ⟨g, 0, none⟩) n cap) n xs := by
  refine ⟨h.1, ?_⟩
  rcases h.2 with ⟨h', _⟩ | ⟨g', cap', cur, h', h1, h2, h3⟩
  · simp at h'
  · refine .inr ⟨g', cap', cur, h', h1, ?_, h3⟩
    simp only [Value.slice.injEq, Option.some.injEq, Addr.mk.injEq, and_true, true_and] at h'
    obtain ⟨rfl, rfl⟩ := h'
    rw [hb.block g hg]; exact h2
theorem verCells {w : World} {base : Nat} {e : TypeId} {g n cap : Nat} {xs : List Value} (h : w.ownsRow base e 2 (.slice (some ⟨g, 0, none⟩) n cap) n xs) (k : Nat) (hk : k < n) :
    ∃ v0 v1, w.cell? ⟨g, k * 2, none⟩ = some v0 ∧ w.cell? ⟨g, k * 2 + 1, none⟩ = some v1 ∧ w.frozen? ⟨g, k * 2, none⟩ = false ∧ w.frozen? ⟨g, k * 2 + 1, none⟩ = false := by
  have hx := h.1
  refine ⟨xs[k * 2]'(by omega), xs[k * 2 + 1]'(by omega), ?_, ?_, h.frozenAt _, h.frozenAt _⟩
  all_goals
    rw [h.cellAt _ (by omega)]
    exact List.getElem?_eq_getElem _
theorem verStore {w : World} {base : Nat} {e : TypeId} {g n cap : Nat} {xs : List Value} (h : w.ownsRow base e 2 (.slice (some ⟨g, 0, none⟩) n cap) n xs) (k : Nat) (v0 v1 : Value) :
    (((w.setCell ⟨g, k * 2, none⟩ v0).setCell ⟨g, k * 2 + 1, none⟩ v1)).ownsRow base e 2 (.slice (some ⟨g, 0, none⟩) n cap) n ((xs.set (k * 2) v0).set (k * 2 + 1) v1) :=
  ((h.stored (k * 2) v0).1.stored (k * 2 + 1) v1).1
theorem verOfRow {w : World} {base : Nat} {e : TypeId} {g n cap : Nat} {xs : List Value} {ns : List VerV} (h : w.ownsRow base e 2 (.slice (some ⟨g, 0, none⟩) n cap) n xs) (hn : ns.length = n) (ht : VerTo xs ns n) : VerAt w g 0 ns := by
  intro i hi
  obtain ⟨c0, c1⟩ := ht i hi (by omega)
  refine ⟨?_, ?_⟩
  all_goals
    rw [Nat.zero_add, h.cellAt _ (by omega)]
    assumption

set_option maxHeartbeats 1600000 in
theorem toVerS_any (w : World) (b off cap : Nat) (ns : List VerV) (hl : ns.length ≤ 1048576) (hc : VerAt w b off ns) (hb : b < w.heap.size) :
    Calls Tryd.prog 13 #[.slice (some ⟨b, off, none⟩) ns.length cap] w fun e w' => e = .returned (.slice (some ⟨w.heap.size, 0, none⟩) ns.length ns.length) ∧ VerAt w' w.heap.size 0 ns ∧ w.heap.size < w'.heap.size ∧ Below w.heap.size w w' ∧ ∀ i, w'.frozen? ⟨w.heap.size, i, none⟩ = false := by
  obtain ⟨i0, hi, hz0, hz1, hz2⟩ := info_parts1 infoVer
  go_enter Tryd.func13, Tryd.ntmps13
  go_wp2_with (first
    | (at_make; refine wpList_make_full _ rfl _ _ 27 rfl w.heap.size 37 i0 _ 2 Tryd.underlying27 hi hz0 hz1 _ _ _ _ ns.length rfl rfl rfl rfl (by rw [hz2]; omega) (by unfold maxLen; omega) (Nat.le_refl _) ?_; intro w1 hown hgrow)
    | go_in)
  clear hz0 hz1 hz2 hi
  have hlt1 : w.heap.size < w1.heap.size := by
    rcases hown.2 with ⟨h', _⟩ | ⟨g', cap', cur, h', _, hg, _⟩
    · simp at h'
    · simp only [Value.slice.injEq, Option.some.injEq, Addr.mk.injEq, and_true, true_and] at h'
      obtain ⟨rfl, rfl⟩ := h'
      exact (Array.getElem?_eq_some_iff.1 hg).1
  have hbw1 : Below w.heap.size w w1 := (Below.refl _ _).grown hgrow (Nat.le_refl _) (fun k hk => by cases hk)
  go_loopw [4] (fun i wr => ∃ (k : Nat) (xs : List Value), k ≤ ns.length ∧ i = .int .i64 k ∧ wr.ownsRow w.heap.size 37 2 (.slice (some ⟨w.heap.size, 0, none⟩) ns.length ns.length) ns.length xs ∧ VerTo xs ns k ∧ w.heap.size < wr.heap.size ∧ Below w.heap.size w wr) (fun i _ => ns.length - (intOf i).toNat)
  case atStart => exact ⟨0, _, Nat.zero_le _, rfl, hown, fun j _ hj => absurd hj (Nat.not_lt_zero _), hlt1, hbw1⟩
  case round =>
    obtain ⟨k, xs, hk, rfl, hrow, hto, hsz, hbel⟩ := hrel
    have HT := hide hto
    clear hto
    by_cases hlt : k < ns.length
    · obtain ⟨c0, c1⟩ := hc k hlt
      rw [← hbel.cell (by exact hb)] at c0 c1
      go_wp2_with (first
        | (go_at_call 21; refine (toVer_any _ _ _).mono ?_; rintro e w2 ⟨rfl, hb2⟩; obtain ⟨v0, v1, d0, d1, f0, f1⟩ := verCells (ownsRowVer_below hrow hb2 hsz) k hlt)
        | go_in)
      have hrow2 := ownsRowVer_below hrow hb2 hsz
      have hb3 : Below w.heap.size w w2 := hbel.trans (hb2.mono (Nat.le_of_lt hsz))
      have hs2 : w.heap.size < w2.heap.size := Nat.lt_of_lt_of_le hsz hb2.size
      clear c0 c1 d0 d1 f0 f1
      go_roundw
      case rel =>
        refine ⟨k + 1, _, by omega, by go_num, verStore hrow2 k _ _, verTo_step xs ns k hlt hrow.1 (unhide HT), by simpa using hs2, ?_⟩
        exact ((hb3.setCell (Nat.le_refl _) _).setCell (Nat.le_refl _) _)
      case measure => simp [intOf]; omega
    · go_wp2
      go_ret
      have e : k = ns.length := by omega
      subst e
      exact ⟨rfl, verOfRow hrow rfl (unhide HT), hsz, hbel, fun i => hrow.frozenAt i⟩

set_option maxHeartbeats 800000 in
theorem toVerS_none (w : World) (a : Option Addr) (cap : Nat) :
    Calls Tryd.prog 13 #[.slice a 0 cap] w fun e w' => e = .returned (.slice (some ⟨w.heap.size, 0, none⟩) 0 0) ∧ w.heap.size < w'.heap.size ∧ Below w.heap.size w w' ∧ ∀ i, w'.frozen? ⟨w.heap.size, i, none⟩ = false := by
  obtain ⟨i0, hi, hz0, hz1, hz2⟩ := info_parts1 infoVer
  go_enter Tryd.func13, Tryd.ntmps13
  go_wp2_with (first
    | (at_make; refine wpList_make_full _ rfl _ _ 27 rfl w.heap.size 37 i0 _ 2 Tryd.underlying27 hi hz0 hz1 _ _ _ _ 0 rfl rfl rfl rfl (by rw [hz2]; omega) (by unfold maxLen; omega) (Nat.le_refl _) ?_; intro w1 hown hgrow)
    | go_in)
  have hlt1 : w.heap.size < w1.heap.size := by
    rcases hown.2 with ⟨h', _⟩ | ⟨g', cap', cur, h', _, hg, _⟩
    · simp at h'
    · simp only [Value.slice.injEq, Option.some.injEq, Addr.mk.injEq, and_true, true_and] at h'
      obtain ⟨rfl, rfl⟩ := h'
      exact (Array.getElem?_eq_some_iff.1 hg).1
  have hbw1 : Below w.heap.size w w1 := (Below.refl _ _).grown hgrow (Nat.le_refl _) (fun k hk => by cases hk)
  have HFZ := hide (fun i => hown.frozenAt i)
  clear hown hgrow
  refine wp_loop_rounds 1 ?_
  rw [rounds_succ]
  go_wp2
  go_ret
  exact ⟨rfl, hlt1, hbw1, unhide HFZ⟩

set_option maxHeartbeats 800000 in
theorem eqVer_same (z0 : ByteArray) (z1 : Int) (w : World) :
    Calls Tryd.prog 28 #[.agg #[.string z0, .int .i64 z1], .agg #[.string z0, .int .i64 z1]] w fun e w' => e = .returned (.bool true) ∧ Below w.heap.size w w' := by
  go_enter Tryd.func28, Tryd.ntmps28
  go_wp2
  go_ret
  exact ⟨rfl, ((Below.refl _ _).alloc (Nat.le_refl _) _).alloc (by simp) _⟩

set_option maxHeartbeats 1600000 in
theorem eqVerS_same (w : World) (b off cap b' off' cap' : Nat) (ns : List VerV) (hl : ns.length ≤ 281474976710656) (hc : VerAt w b off ns) (hc' : VerAt w b' off' ns) (hb : b < w.heap.size) (hb' : b' < w.heap.size) :
    Calls Tryd.prog 17 #[.slice (some ⟨b, off, none⟩) ns.length cap, .slice (some ⟨b', off', none⟩) ns.length cap'] w fun e w' => e = .returned (.bool true) ∧ Below w.heap.size w w' := by
  go_enter Tryd.func17, Tryd.ntmps17
  go_wp2
  go_loopw [5] (fun i wr => ∃ (k : Nat), k ≤ ns.length ∧ i = .int .i64 k ∧ Below w.heap.size w wr) (fun i _ => ns.length - (intOf i).toNat)
  case atStart => exact ⟨0, Nat.zero_le _, rfl, Below.refl _ _⟩
  case round =>
    obtain ⟨k, hk, rfl, hbel⟩ := hrel
    by_cases hlt : k < ns.length
    · obtain ⟨c0, c1⟩ := hc k hlt
      obtain ⟨d0, d1⟩ := hc' k hlt
      rw [← hbel.cell (by exact hb)] at c0 c1
      rw [← hbel.cell (by exact hb')] at d0 d1
      go_wp2
      go_region_with (go_at_call 28; refine (eqVer_same _ _ _).mono ?_; rintro e w2 ⟨rfl, hb2⟩)
      all_goals
        have hb3 : Below w.heap.size w w2 := hbel.drew.trans (hb2.mono hbel.size)
        clear c0 c1 d0 d1
        go_wp2
        go_roundw
        case rel => exact ⟨k + 1, by omega, by go_num, hb3⟩
        case measure => simp [intOf]; omega
    · go_wp2
      go_ret
      exact ⟨rfl, hbel⟩

/-- a slice value leads to these: empty, or a row of them -/
def VerIn (w : World) (a : Option Addr) (ns : List VerV) : Prop :=
  ns = [] ∨ ∃ b off, a = some ⟨b, off, none⟩ ∧ b < w.heap.size ∧ VerAt w b off ns
theorem VerAt.below {w w' : World} {B b off : Nat} {ns : List VerV} (h : VerAt w b off ns) (hb : Below B w w') (hB : b < B) : VerAt w' b off ns := by
  intro i hi
  obtain ⟨c0, c1⟩ := h i hi
  exact ⟨(hb.cell (by exact hB)).trans c0, (hb.cell (by exact hB)).trans c1⟩
theorem VerIn.below {w w' : World} {a : Option Addr} {ns : List VerV} (h : VerIn w a ns) (hb : Below w.heap.size w w') : VerIn w' a ns := by
  rcases h with h | ⟨b, off, e, hlt, hn⟩
  · exact .inl h
  · exact .inr ⟨b, off, e, Nat.lt_of_lt_of_le hlt hb.size, hn.below hb hlt⟩
theorem szVerS_in (w : World) (a : Option Addr) (cap : Nat) (ns : List VerV) (left0 : Int) (hf0 : 0 ≤ left0) (hf1 : left0 ≤ 1048576) (hl : ns.length ≤ maxLen) (h : VerIn w a ns) (hs : VerOk ns) :
    Calls Tryd.prog 9 #[.slice a ns.length cap, .int .i64 left0] w fun e w' => RetVerSz ns left0 e ∧ Below w.heap.size w w' := by
  rcases h with rfl | ⟨b, off, rfl, hb, hn⟩
  · refine (szVerS_none w a cap left0 hf0 hf1).mono ?_
    rintro e w' ⟨rfl, rfl⟩
    exact ⟨⟨_, rfl, by omega, fun _ => ⟨by simp, fun _ h => by cases h⟩⟩, Below.refl _ _⟩
  · exact szVerS_any w b off cap ns left0 hf0 hf1 (by unfold maxLen at hl; omega) hn hb hs
theorem toVerS_in (w : World) (a : Option Addr) (cap : Nat) (ns : List VerV) (hl : ns.length ≤ 1048576) (h : VerIn w a ns) :
    Calls Tryd.prog 13 #[.slice a ns.length cap] w fun e w' => e = .returned (.slice (some ⟨w.heap.size, 0, none⟩) ns.length ns.length) ∧ VerAt w' w.heap.size 0 ns ∧ w.heap.size < w'.heap.size ∧ Below w.heap.size w w' ∧ ∀ i, w'.frozen? ⟨w.heap.size, i, none⟩ = false := by
  rcases h with rfl | ⟨b, off, rfl, hb, hn⟩
  · refine (toVerS_none w a cap).mono ?_
    rintro e w' ⟨rfl, h1, h2, h3⟩
    exact ⟨rfl, fun i hi => absurd hi (Nat.not_lt_zero _), h1, h2, h3⟩
  · exact toVerS_any w b off cap ns hl hn hb

theorem cellsOfVer : Tryd.prog.cellsOf 43 = 2 := by kernel_rfl
theorem cellsIVer : Tryd.prog.cellsOf 3 = 1 := by kernel_rfl
theorem cellsSVer : Tryd.prog.cellsOf 9 = 1 := by kernel_rfl
theorem lt_of_cellVer {w : World} {b off : Nat} {v : Value} (h : w.cell? ⟨b, off, none⟩ = some v) : b < w.heap.size := by
  by_cases hb : b < w.heap.size
  · exact hb
  · exfalso
    have : w.heap[b]? = none := Array.getElem?_eq_none (by omega)
    simp [World.cell?, this] at h
theorem verRange {k : Int} (h : (Lit.int .i64 k).wf = true) : -9223372036854775808 ≤ k ∧ k ≤ 9223372036854775807 := bounds_i64 h
set_option maxRecDepth 20000 in
theorem openVerS {H : Type} {enc : TypeId × Value → H} {w : World} {base : Nat} {spare : Nat → Bool} {held : Bool} {a : Option Addr} {len cap : Nat} {d : DataW H} {p : List MemPlace}
    (h : DataW.Trod enc Tryd.prog w base spare held 22 (.slice a len cap) d p) :
    ∃ ns : List VerV, ns.length = len ∧ len ≤ maxLen ∧ VerIn w a ns ∧ VerOk ns := by
  obtain ⟨fuel, hf⟩ := h
  rcases open_slice Tryd.underlying22 hf with ⟨hcs, _⟩ | ⟨a', len', cap', m, n, D, Pl, hcs, hb, hl, hm, hmm, _, hx⟩
  · simp [Value.cells] at hcs
    obtain ⟨rfl, rfl, rfl⟩ := hcs
    exact ⟨[], rfl, by unfold maxLen; omega, .inl rfl, fun _ h => by cases h⟩
  · simp [Value.cells] at hcs
    obtain ⟨rfl, rfl, rfl⟩ := hcs
    have hlm : len ≤ m := by rw [hmm]; split <;> omega
    have each : ∀ i, i < len → ∃ q : ByteArray × Int, w.cell? (a'.add (i * 2)) = some (.string (q.1)) ∧ w.cell? (a'.add (i * 2 + 1)) = some (.int .i64 (q.2)) ∧ VerFit ⟨q.1, q.2⟩ := by
      intro i hi
      obtain ⟨cs', h1, h2⟩ := hx i (by omega)
      rw [cellsOfVer] at h1
      obtain ⟨_, hlen, hcell⟩ := World.cells?_some h1
      obtain ⟨xs, k, hk, hxy, _, hxl, hf⟩ := DataW.trod_struct Tryd.underlying43 h2
      match xs, hxl, cs', hlen with
      | [y0, y1], _, [v0, v1], _ =>
        have g0 := hf 0 _ rfl
        have g1 := hf 1 _ rfl
        simp [cellsIVer, cellsSVer] at g0 g1
        obtain ⟨n0, e0, _, hs0⟩ := DataW.trod_string Tryd.underlying9 g0
        obtain ⟨n1, e1, _, hs1⟩ := DataW.trod_int Tryd.underlying3 g1
        simp at e0 e1
        subst e0 e1
        have c0 := hcell 0 (by omega)
        have c1 := hcell 1 (by omega)
        rw [add_add] at c0 c1
        exact ⟨(n0, n1), by simpa using c0, by simpa using c1, ⟨hs0, verRange hs1⟩⟩
    have hin : Inhabited (ByteArray × Int) := ⟨(ByteArray.empty, 0)⟩
    obtain ⟨q, hq⟩ := choose_lt each
    refine ⟨(List.range len).map fun i => ⟨(q i).1, (q i).2⟩, by simp, by omega, ?_, ?_⟩
    · by_cases h0 : len = 0
      · subst h0; exact .inl (by simp)
      · have hc0 := (hq 0 (by omega)).1
        obtain ⟨b, off, spot⟩ := a'
        have hspot : spot = none := by simpa [Addr.add] using World.cell?_spot hc0
        subst hspot
        refine .inr ⟨b, off, rfl, ?_, ?_⟩
        · exact lt_of_cellVer (by simpa [Addr.add] using hc0)
        · intro i hi
          have hi' : i < len := by simpa using hi
          obtain ⟨c0, c1, _⟩ := hq i hi'
          simp only [List.getElem_map, List.getElem_range]
          refine ⟨?_, ?_⟩
          · by_cases e : i = 0
            · subst e; simpa [Addr.add] using c0
            · have e4 : ¬ i * 2 = 0 := by omega
              simpa [Addr.add, e4] using c0
          · simpa [Addr.add, Nat.add_assoc] using c1
    · intro x hx
      simp at hx
      obtain ⟨i, hi, rfl⟩ := hx
      exact (hq i hi).2.2

end Go.Proofs.YtiebfcefmdiajaaDoor
