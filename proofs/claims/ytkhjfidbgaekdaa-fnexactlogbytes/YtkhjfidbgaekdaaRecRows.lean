/-
  Lists of Rec in memory, and the law's own helpers over them: how much they hold, how they are copied, how two lists are compared, and how one that comes in is opened. (Made by wip/mkrows.py.)
-/
import Derived.Test.YtkhjfidbgaekdaaBytes
import Derived.Test.YtkhjfidbgaekdaaRecs
import Derived.Deep.RegionWith
import Derived.Deep.Slices
import Derived.ProofKit
import Derived.OpenShut
set_option linter.unusedVariables false
namespace Go.Proofs.Ytkhjfidbgaekdaa
open Go.RowKit Go.Maps Go.Deep


/-- they lie one behind the other, from a place of a block on -/
def RecAt (w : World) (b off : Nat) (ns : List RecV) : Prop :=
  ∀ i (h : i < ns.length), w.cell? ⟨b, off + i * 4, none⟩ = some (.int .i64 (ns[i].kind)) ∧ w.cell? ⟨b, off + i * 4 + 1, none⟩ = some (.string (ns[i].name)) ∧ w.cell? ⟨b, off + i * 4 + 2, none⟩ = some (.int .i64 (ns[i].num)) ∧ w.cell? ⟨b, off + i * 4 + 3, none⟩ = some (.string (ns[i].text))
def RecOk (ns : List RecV) : Prop := ∀ x ∈ ns, RecFit x
/-- what the bound gives where it is not passed -/
def RecSmall (ns : List RecV) : Prop := ns.length ≤ 1048576 ∧ ∀ x ∈ ns, x.name.size ≤ 1048576 ∧ x.text.size ≤ 1048576

/-- what is left, or less than nothing -/
def RecLeft (n1 n3 : Nat) (left r : Int) : Prop := r ≤ left ∧ (0 ≤ r → (n1 : Int) ≤ left ∧ (n3 : Int) ≤ left)
set_option maxHeartbeats 800000 in
theorem szRec_any (z0 : Int) (z1 : ByteArray) (z2 : Int) (z3 : ByteArray) (left : Int) (w : World) (hs1 : z1.size ≤ maxLen) (hs3 : z3.size ≤ maxLen) (h0 : 0 ≤ left) (h1 : left ≤ 1048576) :
    Calls Try.prog 18 #[.agg #[.int .i64 z0, .string z1, .int .i64 z2, .string z3], .int .i64 left] w fun e w' => ∃ r : Int, Hid (e = .returned (.int .i64 r)) ∧ Hid (RecLeft z1.size z3.size left r) ∧ Below w.heap.size w w' := by
  unfold maxLen at hs1 hs3
  by_cases g1 : left - (z1.size : Int) < 0
  · go_enter Try.func18, Try.ntmps18
    go_wp2
    go_ret
    exact ⟨-1, rfl, ⟨by omega, fun h => by omega⟩, (Below.refl _ _).alloc (Nat.le_refl _) _⟩
  · by_cases g3 : left - (z1.size : Int) - (z3.size : Int) < 0
    · go_enter Try.func18, Try.ntmps18
      go_wp2
      go_ret
      exact ⟨-1, rfl, ⟨by omega, fun h => by omega⟩, (Below.refl _ _).alloc (Nat.le_refl _) _⟩
    · go_enter Try.func18, Try.ntmps18
      go_wp2
      go_ret
      exact ⟨_, rfl, ⟨by omega, fun _ => by omega⟩, (Below.refl _ _).alloc (Nat.le_refl _) _⟩

def RetRecSz (ns : List RecV) (left0 : Int) (e : Ending) : Prop := ∃ r : Int, e = .returned (.int .i64 r) ∧ r ≤ left0 ∧ (0 ≤ r → RecSmall ns)
set_option maxHeartbeats 1600000 in
theorem szRecS_any (w : World) (b off cap : Nat) (ns : List RecV) (left0 : Int) (hf0 : 0 ≤ left0) (hf1 : left0 ≤ 1048576) (hl : ns.length ≤ 9223372036854775807) (hc : RecAt w b off ns) (hb : b < w.heap.size) (hs : RecOk ns) :
    Calls Try.prog 5 #[.slice (some ⟨b, off, none⟩) ns.length cap, .int .i64 left0] w fun e w' => RetRecSz ns left0 e ∧ Below w.heap.size w w' := by
  have HS := hide hs
  clear hs
  by_cases hlen : (ns.length : Int) ≤ left0
  · go_enter Try.func5, Try.ntmps5
    go_wp2
    go_loopw [1, 5] (fun l i wr => ∃ (k : Nat) (left : Int), k ≤ ns.length ∧ i = .int .i64 k ∧ l = .int .i64 left ∧ 0 ≤ left ∧ left ≤ left0 ∧ (∀ j (h : j < ns.length), j < k → ns[j].name.size ≤ 1048576 ∧ ns[j].text.size ≤ 1048576) ∧ Below w.heap.size w wr) (fun _ i _ => ns.length - (intOf i).toNat)
    case atStart => exact ⟨0, _, Nat.zero_le _, rfl, rfl, by omega, by omega, fun j _ hj => absurd hj (Nat.not_lt_zero _), Below.refl _ _⟩
    case round =>
      obtain ⟨k, left, hk, rfl, rfl, hl0, hl1, hnames, hbel⟩ := hrel
      have HN := hide hnames
      clear hnames
      by_cases hlt : k < ns.length
      · obtain ⟨c0, c1, c2, c3⟩ := hc k hlt
        rw [← hbel.cell (by exact hb)] at c0 c1 c2 c3
        have HF := hide (unhide HS _ (List.getElem_mem hlt))
        obtain ⟨r, hr⟩ : ∃ r : Int, r = r := ⟨0, rfl⟩
        clear r hr
        go_wp2_with (first
          | (go_at_call 18; refine (szRec_any _ _ _ _ _ _ (unhide HF).1 (unhide HF).2.1 hl0 (by omega)).mono ?_; rintro e w1 ⟨r, he, hr, hb1⟩; obtain rfl := unhide he; by_cases hneg : r < 0)
          | go_in)
        · go_ret
          exact ⟨⟨-1, rfl, by omega, fun h => by omega⟩, hbel.trans (hb1.mono hbel.size)⟩
        · have hr' := unhide hr
          have hr2 := hr'.2 (by omega)
          have hr1 := hr'.1
          clear hr' hr
          go_roundw
          case rel =>
            refine ⟨k + 1, _, by omega, by go_num, rfl, by omega, by omega, fun j h hj => ?_, hbel.trans (hb1.mono hbel.size)⟩
            by_cases e : j = k
            · subst e; omega
            · exact unhide HN j h (by omega)
          case measure => simp [intOf]; omega
      · go_wp2
        go_ret
        refine ⟨⟨_, rfl, by omega, fun _ => ⟨by omega, fun x hx => ?_⟩⟩, hbel⟩
        obtain ⟨j, hj, rfl⟩ := List.getElem_of_mem hx
        exact unhide HN j hj (by omega)
  · go_enter Try.func5, Try.ntmps5
    go_wp2
    go_ret
    exact ⟨⟨-1, rfl, by omega, fun h => by omega⟩, Below.refl _ _⟩

set_option maxHeartbeats 400000 in
theorem szRecS_none (w : World) (a : Option Addr) (cap : Nat) (left0 : Int) (hf0 : 0 ≤ left0) (hf1 : left0 ≤ 1048576) :
    Calls Try.prog 5 #[.slice a 0 cap, .int .i64 left0] w fun e w' => e = .returned (.int .i64 left0) ∧ w' = w := by
  go_enter Try.func5, Try.ntmps5
  go_wp2
  refine wp_loop_rounds 1 ?_
  rw [rounds_succ]
  go_wp2
  go_ret
  exact ⟨rfl, rfl⟩

set_option maxHeartbeats 800000 in
theorem toRec_any (z0 : Int) (z1 : ByteArray) (z2 : Int) (z3 : ByteArray) (w : World) :
    Calls Try.prog 20 #[.agg #[.int .i64 z0, .string z1, .int .i64 z2, .string z3]] w fun e w' => e = .returned (.agg #[.int .i64 z0, .string z1, .int .i64 z2, .string z3]) ∧ Below w.heap.size w w' := by
  go_enter Try.func20, Try.ntmps20
  go_wp2
  exact bodyPost_ret (v := .agg #[.int .i64 z0, .string z1, .int .i64 z2, .string z3]) (by simp [results, Try.results20, go_sem]) rfl ⟨rfl, (((Below.refl _ _).alloc (Nat.le_refl _) _).alloc (by simp) _).alloc (by simp; omega) _⟩

theorem infoRec : (Try.prog.info? 42).map (fun i => (i.zero, i.size, i.bytes)) = some (some (.agg #[.int .i64 0, .string ByteArray.empty, .int .i64 0, .string ByteArray.empty]), 4, 48) := by kernel_rfl

def RecTo (xs : List Value) (ns : List RecV) (k : Nat) : Prop :=
  ∀ i (h : i < ns.length), i < k → xs[i * 4]? = some (.int .i64 (ns[i].kind)) ∧ xs[i * 4 + 1]? = some (.string (ns[i].name)) ∧ xs[i * 4 + 2]? = some (.int .i64 (ns[i].num)) ∧ xs[i * 4 + 3]? = some (.string (ns[i].text))
theorem recTo_step (xs : List Value) (ns : List RecV) (k : Nat) (hk : k < ns.length) (hx : xs.length = ns.length * 4) (h : RecTo xs ns k) :
    RecTo ((((xs.set (k * 4) (.int .i64 (ns[k].kind))).set (k * 4 + 1) (.string (ns[k].name))).set (k * 4 + 2) (.int .i64 (ns[k].num))).set (k * 4 + 3) (.string (ns[k].text))) ns (k + 1) := by
  intro i hi hik
  by_cases e : i = k
  · subst e
    simp [List.getElem?_set, hx]
    omega
  · obtain ⟨c0, c1, c2, c3⟩ := h i hi (by omega)
    refine ⟨?_, ?_, ?_, ?_⟩ <;> (repeat rw [List.getElem?_set_ne (by omega)]) <;> assumption

theorem ownsRowRec_below {w w' : World} {base B : Nat} {e : TypeId} {size : Nat} {g n cap : Nat} {xs : List Value} (h : w.ownsRow base e size (.slice (some ⟨g, 0, none⟩) n cap) n xs) (hb : Below B w w') (hg : g < B) :
    w'.ownsRow base e size (.slice (some ⟨g, 0, none⟩) n cap) n xs := by
  refine ⟨h.1, ?_⟩
  rcases h.2 with ⟨h', _⟩ | ⟨g', cap', cur, h', h1, h2, h3⟩
  · simp at h'
  · refine .inr ⟨g', cap', cur, h', h1, ?_, h3⟩
    simp only [Value.slice.injEq, Option.some.injEq, Addr.mk.injEq, and_true, true_and] at h'
    obtain ⟨rfl, rfl⟩ := h'
    rw [hb.block g hg]; exact h2
theorem recCells {w : World} {base : Nat} {e : TypeId} {g n cap : Nat} {xs : List Value} (h : w.ownsRow base e 4 (.slice (some ⟨g, 0, none⟩) n cap) n xs) (k : Nat) (hk : k < n) :
    ∃ v0 v1 v2 v3, w.cell? ⟨g, k * 4, none⟩ = some v0 ∧ w.cell? ⟨g, k * 4 + 1, none⟩ = some v1 ∧ w.cell? ⟨g, k * 4 + 2, none⟩ = some v2 ∧ w.cell? ⟨g, k * 4 + 3, none⟩ = some v3 ∧ w.frozen? ⟨g, k * 4, none⟩ = false ∧ w.frozen? ⟨g, k * 4 + 1, none⟩ = false ∧ w.frozen? ⟨g, k * 4 + 2, none⟩ = false ∧ w.frozen? ⟨g, k * 4 + 3, none⟩ = false := by
  have hx := h.1
  refine ⟨xs[k * 4]'(by omega), xs[k * 4 + 1]'(by omega), xs[k * 4 + 2]'(by omega), xs[k * 4 + 3]'(by omega), ?_, ?_, ?_, ?_, h.frozenAt _, h.frozenAt _, h.frozenAt _, h.frozenAt _⟩
  all_goals
    rw [h.cellAt _ (by omega)]
    exact List.getElem?_eq_getElem _
theorem recStore {w : World} {base : Nat} {e : TypeId} {g n cap : Nat} {xs : List Value} (h : w.ownsRow base e 4 (.slice (some ⟨g, 0, none⟩) n cap) n xs) (k : Nat) (v0 v1 v2 v3 : Value) :
    (((((w.setCell ⟨g, k * 4, none⟩ v0).setCell ⟨g, k * 4 + 1, none⟩ v1).setCell ⟨g, k * 4 + 2, none⟩ v2).setCell ⟨g, k * 4 + 3, none⟩ v3)).ownsRow base e 4 (.slice (some ⟨g, 0, none⟩) n cap) n ((((xs.set (k * 4) v0).set (k * 4 + 1) v1).set (k * 4 + 2) v2).set (k * 4 + 3) v3) :=
  ((((h.stored (k * 4) v0).1.stored (k * 4 + 1) v1).1.stored (k * 4 + 2) v2).1.stored (k * 4 + 3) v3).1
theorem recOfRow {w : World} {base : Nat} {e : TypeId} {g n cap : Nat} {xs : List Value} {ns : List RecV} (h : w.ownsRow base e 4 (.slice (some ⟨g, 0, none⟩) n cap) n xs) (hn : ns.length = n) (ht : RecTo xs ns n) : RecAt w g 0 ns := by
  intro i hi
  obtain ⟨c0, c1, c2, c3⟩ := ht i hi (by omega)
  refine ⟨?_, ?_, ?_, ?_⟩
  all_goals
    rw [Nat.zero_add, h.cellAt _ (by omega)]
    assumption

set_option maxHeartbeats 1600000 in
theorem toRecS_any (w : World) (b off cap : Nat) (ns : List RecV) (hl : ns.length ≤ 1048576) (hc : RecAt w b off ns) (hb : b < w.heap.size) :
    Calls Try.prog 7 #[.slice (some ⟨b, off, none⟩) ns.length cap] w fun e w' => e = .returned (.slice (some ⟨w.heap.size, 0, none⟩) ns.length ns.length) ∧ RecAt w' w.heap.size 0 ns ∧ w.heap.size < w'.heap.size ∧ Below w.heap.size w w' ∧ ∀ i, w'.frozen? ⟨w.heap.size, i, none⟩ = false := by
  obtain ⟨i0, hi, hz0, hz1, hz2⟩ := info_parts1 infoRec
  go_enter Try.func7, Try.ntmps7
  go_wp2_with (first
    | (at_make; refine wpList_make_full _ rfl _ _ 27 rfl w.heap.size 42 i0 _ 4 Try.underlying27 hi hz0 hz1 _ _ _ _ ns.length rfl rfl rfl rfl (by rw [hz2]; omega) (by unfold maxLen; omega) (Nat.le_refl _) ?_; intro w1 hown hgrow)
    | go_in)
  clear hz0 hz1 hz2 hi
  have hlt1 : w.heap.size < w1.heap.size := by
    rcases hown.2 with ⟨h', _⟩ | ⟨g', cap', cur, h', _, hg, _⟩
    · simp at h'
    · simp only [Value.slice.injEq, Option.some.injEq, Addr.mk.injEq, and_true, true_and] at h'
      obtain ⟨rfl, rfl⟩ := h'
      exact (Array.getElem?_eq_some_iff.1 hg).1
  have hbw1 : Below w.heap.size w w1 := (Below.refl _ _).grown hgrow (Nat.le_refl _) (fun k hk => by cases hk)
  go_loopw [4] (fun i wr => ∃ (k : Nat) (xs : List Value), k ≤ ns.length ∧ i = .int .i64 k ∧ wr.ownsRow w.heap.size 42 4 (.slice (some ⟨w.heap.size, 0, none⟩) ns.length ns.length) ns.length xs ∧ RecTo xs ns k ∧ w.heap.size < wr.heap.size ∧ Below w.heap.size w wr) (fun i _ => ns.length - (intOf i).toNat)
  case atStart => exact ⟨0, _, Nat.zero_le _, rfl, hown, fun j _ hj => absurd hj (Nat.not_lt_zero _), hlt1, hbw1⟩
  case round =>
    obtain ⟨k, xs, hk, rfl, hrow, hto, hsz, hbel⟩ := hrel
    have HT := hide hto
    clear hto
    by_cases hlt : k < ns.length
    · obtain ⟨c0, c1, c2, c3⟩ := hc k hlt
      rw [← hbel.cell (by exact hb)] at c0 c1 c2 c3
      go_wp2_with (first
        | (go_at_call 20; refine (toRec_any _ _ _ _ _).mono ?_; rintro e w2 ⟨rfl, hb2⟩; obtain ⟨v0, v1, v2, v3, d0, d1, d2, d3, f0, f1, f2, f3⟩ := recCells (ownsRowRec_below hrow hb2 hsz) k hlt)
        | go_in)
      have hrow2 := ownsRowRec_below hrow hb2 hsz
      have hb3 : Below w.heap.size w w2 := hbel.trans (hb2.mono (Nat.le_of_lt hsz))
      have hs2 : w.heap.size < w2.heap.size := Nat.lt_of_lt_of_le hsz hb2.size
      clear c0 c1 c2 c3 d0 d1 d2 d3 f0 f1 f2 f3
      go_roundw
      case rel =>
        refine ⟨k + 1, _, by omega, by go_num, recStore hrow2 k _ _ _ _, recTo_step xs ns k hlt hrow.1 (unhide HT), by simpa using hs2, ?_⟩
        exact ((((hb3.setCell (Nat.le_refl _) _).setCell (Nat.le_refl _) _).setCell (Nat.le_refl _) _).setCell (Nat.le_refl _) _)
      case measure => simp [intOf]; omega
    · go_wp2
      go_ret
      have e : k = ns.length := by omega
      subst e
      exact ⟨rfl, recOfRow hrow rfl (unhide HT), hsz, hbel, fun i => hrow.frozenAt i⟩

set_option maxHeartbeats 800000 in
theorem toRecS_none (w : World) (a : Option Addr) (cap : Nat) :
    Calls Try.prog 7 #[.slice a 0 cap] w fun e w' => e = .returned (.slice (some ⟨w.heap.size, 0, none⟩) 0 0) ∧ w.heap.size < w'.heap.size ∧ Below w.heap.size w w' ∧ ∀ i, w'.frozen? ⟨w.heap.size, i, none⟩ = false := by
  obtain ⟨i0, hi, hz0, hz1, hz2⟩ := info_parts1 infoRec
  go_enter Try.func7, Try.ntmps7
  go_wp2_with (first
    | (at_make; refine wpList_make_full _ rfl _ _ 27 rfl w.heap.size 42 i0 _ 4 Try.underlying27 hi hz0 hz1 _ _ _ _ 0 rfl rfl rfl rfl (by rw [hz2]; omega) (by unfold maxLen; omega) (Nat.le_refl _) ?_; intro w1 hown hgrow)
    | go_in)
  have hlt1 : w.heap.size < w1.heap.size := by
    rcases hown.2 with ⟨h', _⟩ | ⟨g', cap', cur, h', _, hg, _⟩
    · simp at h'
    · simp only [Value.slice.injEq, Option.some.injEq, Addr.mk.injEq, and_true, true_and] at h'
      obtain ⟨rfl, rfl⟩ := h'
      exact (Array.getElem?_eq_some_iff.1 hg).1
  have hbw1 : Below w.heap.size w w1 := (Below.refl _ _).grown hgrow (Nat.le_refl _) (fun k hk => by cases hk)
  have HFZ := hide (fun i => hown.frozenAt i)
  clear hown hgrow
  refine wp_loop_rounds 1 ?_
  rw [rounds_succ]
  go_wp2
  go_ret
  exact ⟨rfl, hlt1, hbw1, unhide HFZ⟩

set_option maxHeartbeats 800000 in
theorem eqRec_same (z0 : Int) (z1 : ByteArray) (z2 : Int) (z3 : ByteArray) (w : World) :
    Calls Try.prog 22 #[.agg #[.int .i64 z0, .string z1, .int .i64 z2, .string z3], .agg #[.int .i64 z0, .string z1, .int .i64 z2, .string z3]] w fun e w' => e = .returned (.bool true) ∧ Below w.heap.size w w' := by
  go_enter Try.func22, Try.ntmps22
  go_wp2
  go_ret
  exact ⟨rfl, ((Below.refl _ _).alloc (Nat.le_refl _) _).alloc (by simp) _⟩

set_option maxHeartbeats 1600000 in
theorem eqRecS_same (w : World) (b off cap b' off' cap' : Nat) (ns : List RecV) (hl : ns.length ≤ 281474976710656) (hc : RecAt w b off ns) (hc' : RecAt w b' off' ns) (hb : b < w.heap.size) (hb' : b' < w.heap.size) :
    Calls Try.prog 10 #[.slice (some ⟨b, off, none⟩) ns.length cap, .slice (some ⟨b', off', none⟩) ns.length cap'] w fun e w' => e = .returned (.bool true) ∧ Below w.heap.size w w' := by
  go_enter Try.func10, Try.ntmps10
  go_wp2
  go_loopw [5] (fun i wr => ∃ (k : Nat), k ≤ ns.length ∧ i = .int .i64 k ∧ Below w.heap.size w wr) (fun i _ => ns.length - (intOf i).toNat)
  case atStart => exact ⟨0, Nat.zero_le _, rfl, Below.refl _ _⟩
  case round =>
    obtain ⟨k, hk, rfl, hbel⟩ := hrel
    by_cases hlt : k < ns.length
    · obtain ⟨c0, c1, c2, c3⟩ := hc k hlt
      obtain ⟨d0, d1, d2, d3⟩ := hc' k hlt
      rw [← hbel.cell (by exact hb)] at c0 c1 c2 c3
      rw [← hbel.cell (by exact hb')] at d0 d1 d2 d3
      go_wp2
      go_region_with (go_at_call 22; refine (eqRec_same _ _ _ _ _).mono ?_; rintro e w2 ⟨rfl, hb2⟩)
      all_goals
        have hb3 : Below w.heap.size w w2 := hbel.drew.trans (hb2.mono hbel.size)
        clear c0 c1 c2 c3 d0 d1 d2 d3
        go_wp2
        go_roundw
        case rel => exact ⟨k + 1, by omega, by go_num, hb3⟩
        case measure => simp [intOf]; omega
    · go_wp2
      go_ret
      exact ⟨rfl, hbel⟩

/-- a slice value leads to these: empty, or a row of them -/
def RecIn (w : World) (a : Option Addr) (ns : List RecV) : Prop :=
  ns = [] ∨ ∃ b off, a = some ⟨b, off, none⟩ ∧ b < w.heap.size ∧ RecAt w b off ns
theorem RecAt.below {w w' : World} {B b off : Nat} {ns : List RecV} (h : RecAt w b off ns) (hb : Below B w w') (hB : b < B) : RecAt w' b off ns := by
  intro i hi
  obtain ⟨c0, c1, c2, c3⟩ := h i hi
  exact ⟨(hb.cell (by exact hB)).trans c0, (hb.cell (by exact hB)).trans c1, (hb.cell (by exact hB)).trans c2, (hb.cell (by exact hB)).trans c3⟩
theorem RecIn.below {w w' : World} {a : Option Addr} {ns : List RecV} (h : RecIn w a ns) (hb : Below w.heap.size w w') : RecIn w' a ns := by
  rcases h with h | ⟨b, off, e, hlt, hn⟩
  · exact .inl h
  · exact .inr ⟨b, off, e, Nat.lt_of_lt_of_le hlt hb.size, hn.below hb hlt⟩
theorem szRecS_in (w : World) (a : Option Addr) (cap : Nat) (ns : List RecV) (left0 : Int) (hf0 : 0 ≤ left0) (hf1 : left0 ≤ 1048576) (hl : ns.length ≤ maxLen) (h : RecIn w a ns) (hs : RecOk ns) :
    Calls Try.prog 5 #[.slice a ns.length cap, .int .i64 left0] w fun e w' => RetRecSz ns left0 e ∧ Below w.heap.size w w' := by
  rcases h with rfl | ⟨b, off, rfl, hb, hn⟩
  · refine (szRecS_none w a cap left0 hf0 hf1).mono ?_
    rintro e w' ⟨rfl, rfl⟩
    exact ⟨⟨_, rfl, by omega, fun _ => ⟨by simp, fun _ h => by cases h⟩⟩, Below.refl _ _⟩
  · exact szRecS_any w b off cap ns left0 hf0 hf1 (by unfold maxLen at hl; omega) hn hb hs
theorem toRecS_in (w : World) (a : Option Addr) (cap : Nat) (ns : List RecV) (hl : ns.length ≤ 1048576) (h : RecIn w a ns) :
    Calls Try.prog 7 #[.slice a ns.length cap] w fun e w' => e = .returned (.slice (some ⟨w.heap.size, 0, none⟩) ns.length ns.length) ∧ RecAt w' w.heap.size 0 ns ∧ w.heap.size < w'.heap.size ∧ Below w.heap.size w w' ∧ ∀ i, w'.frozen? ⟨w.heap.size, i, none⟩ = false := by
  rcases h with rfl | ⟨b, off, rfl, hb, hn⟩
  · refine (toRecS_none w a cap).mono ?_
    rintro e w' ⟨rfl, h1, h2, h3⟩
    exact ⟨rfl, fun i hi => absurd hi (Nat.not_lt_zero _), h1, h2, h3⟩
  · exact toRecS_any w b off cap ns hl hn hb

theorem cellsOfRec : Try.prog.cellsOf 40 = 4 := by kernel_rfl
theorem cellsIRec : Try.prog.cellsOf 3 = 1 := by kernel_rfl
theorem cellsSRec : Try.prog.cellsOf 9 = 1 := by kernel_rfl
theorem lt_of_cellRec {w : World} {b off : Nat} {v : Value} (h : w.cell? ⟨b, off, none⟩ = some v) : b < w.heap.size := by
  by_cases hb : b < w.heap.size
  · exact hb
  · exfalso
    have : w.heap[b]? = none := Array.getElem?_eq_none (by omega)
    simp [World.cell?, this] at h
theorem recRange {k : Int} (h : (Lit.int .i64 k).wf = true) : -9223372036854775808 ≤ k ∧ k ≤ 9223372036854775807 := bounds_i64 h
set_option maxRecDepth 20000 in
theorem openRecS {H : Type} {enc : TypeId × Value → H} {w : World} {base : Nat} {spare : Nat → Bool} {held : Bool} {a : Option Addr} {len cap : Nat} {d : DataW H} {p : List MemPlace}
    (h : DataW.Trod enc Try.prog w base spare held 22 (.slice a len cap) d p) :
    ∃ ns : List RecV, ns.length = len ∧ len ≤ maxLen ∧ RecIn w a ns ∧ RecOk ns := by
  obtain ⟨fuel, hf⟩ := h
  rcases open_slice Try.underlying22 hf with ⟨hcs, _⟩ | ⟨a', len', cap', m, n, D, Pl, hcs, hb, hl, hm, hmm, _, hx⟩
  · simp [Value.cells] at hcs
    obtain ⟨rfl, rfl, rfl⟩ := hcs
    exact ⟨[], rfl, by unfold maxLen; omega, .inl rfl, fun _ h => by cases h⟩
  · simp [Value.cells] at hcs
    obtain ⟨rfl, rfl, rfl⟩ := hcs
    have hlm : len ≤ m := by rw [hmm]; split <;> omega
    have each : ∀ i, i < len → ∃ q : Int × ByteArray × Int × ByteArray, w.cell? (a'.add (i * 4)) = some (.int .i64 (q.1)) ∧ w.cell? (a'.add (i * 4 + 1)) = some (.string (q.2.1)) ∧ w.cell? (a'.add (i * 4 + 2)) = some (.int .i64 (q.2.2.1)) ∧ w.cell? (a'.add (i * 4 + 3)) = some (.string (q.2.2.2)) ∧ RecFit ⟨q.1, q.2.1, q.2.2.1, q.2.2.2⟩ := by
      intro i hi
      obtain ⟨cs', h1, h2⟩ := hx i (by omega)
      rw [cellsOfRec] at h1
      obtain ⟨_, hlen, hcell⟩ := World.cells?_some h1
      obtain ⟨xs, k, hk, hxy, _, hxl, hf⟩ := DataW.trod_struct Try.underlying40 h2
      match xs, hxl, cs', hlen with
      | [y0, y1, y2, y3], _, [v0, v1, v2, v3], _ =>
        have g0 := hf 0 _ rfl
        have g1 := hf 1 _ rfl
        have g2 := hf 2 _ rfl
        have g3 := hf 3 _ rfl
        simp [cellsIRec, cellsSRec] at g0 g1 g2 g3
        obtain ⟨n0, e0, _, hs0⟩ := DataW.trod_int Try.underlying3 g0
        obtain ⟨n1, e1, _, hs1⟩ := DataW.trod_string Try.underlying9 g1
        obtain ⟨n2, e2, _, hs2⟩ := DataW.trod_int Try.underlying3 g2
        obtain ⟨n3, e3, _, hs3⟩ := DataW.trod_string Try.underlying9 g3
        simp at e0 e1 e2 e3
        subst e0 e1 e2 e3
        have c0 := hcell 0 (by omega)
        have c1 := hcell 1 (by omega)
        have c2 := hcell 2 (by omega)
        have c3 := hcell 3 (by omega)
        rw [add_add] at c0 c1 c2 c3
        exact ⟨(n0, n1, n2, n3), by simpa using c0, by simpa using c1, by simpa using c2, by simpa using c3, ⟨hs1, hs3, recRange hs0, recRange hs2⟩⟩
    have hin : Inhabited (Int × ByteArray × Int × ByteArray) := ⟨(0, ByteArray.empty, 0, ByteArray.empty)⟩
    obtain ⟨q, hq⟩ := choose_lt each
    refine ⟨(List.range len).map fun i => ⟨(q i).1, (q i).2.1, (q i).2.2.1, (q i).2.2.2⟩, by simp, by omega, ?_, ?_⟩
    · by_cases h0 : len = 0
      · subst h0; exact .inl (by simp)
      · have hc0 := (hq 0 (by omega)).1
        obtain ⟨b, off, spot⟩ := a'
        have hspot : spot = none := by simpa [Addr.add] using World.cell?_spot hc0
        subst hspot
        refine .inr ⟨b, off, rfl, ?_, ?_⟩
        · exact lt_of_cellRec (by simpa [Addr.add] using hc0)
        · intro i hi
          have hi' : i < len := by simpa using hi
          obtain ⟨c0, c1, c2, c3, _⟩ := hq i hi'
          simp only [List.getElem_map, List.getElem_range]
          refine ⟨?_, ?_, ?_, ?_⟩
          · by_cases e : i = 0
            · subst e; simpa [Addr.add] using c0
            · have e4 : ¬ i * 4 = 0 := by omega
              simpa [Addr.add, e4] using c0
          · simpa [Addr.add, Nat.add_assoc] using c1
          · simpa [Addr.add, Nat.add_assoc] using c2
          · simpa [Addr.add, Nat.add_assoc] using c3
    · intro x hx
      simp at hx
      obtain ⟨i, hi, rfl⟩ := hx
      exact (hq i hi).2.2.2.2

end Go.Proofs.Ytkhjfidbgaekdaa
