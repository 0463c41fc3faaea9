/-
  Windows: have two stamps the same sources?
-/
/-
  Items copied and compared.
-/
/-
  Windows: the program's way to hold two stamps' sources against each other.
-/
import Derived.Test.YtpiapgjiaeddjaaMerged4
import Derived.Test.YtpiapgjiaeddjaaMarkRowsOwn
import Derived.BigQuiet
import Derived.Deep.QuietTactic
import Derived.Handy
import Derived.Test.YtpiapgjiaeddjaaMerged13
import Derived.Test.YtpiapgjiaeddjaaStampI
set_option linter.unusedVariables false
namespace Go.Proofs.Ytpiapgjiaeddjaa
open Go.RowKit Go.Maps Go.Deep

def srcB (xa xb : List MarkV) : Bool := decide (xa.map (·.a0) = xb.map (·.a0))
theorem src_len {xa xb : List MarkV} (h : xa.length ≠ xb.length) : srcB xa xb = false := by
  unfold srcB
  rw [decide_eq_false_iff_not]
  intro e
  have := congrArg List.length e
  simp at this
  exact h this
theorem src_off {xa xb : List MarkV} {k : Nat} (ha : k < xa.length) (hb : k < xb.length) (h : xa[k].a0 ≠ xb[k].a0) : srcB xa xb = false := by
  unfold srcB
  rw [decide_eq_false_iff_not]
  intro e
  have := congrArg (fun l => l[k]?) e
  simp [ha, hb] at this
  exact h this
theorem src_on {xa xb : List MarkV} (hl : xa.length = xb.length) (h : ∀ i (ha : i < xa.length) (hb : i < xb.length), xa[i].a0 = xb[i].a0) : srcB xa xb = true := by
  unfold srcB
  rw [decide_eq_true_eq]
  apply List.ext_getElem
  · simpa using hl
  · intro i h1 h2
    simp at h1 h2
    simpa using h i h1 h2
set_option maxHeartbeats 3200000 in
theorem l14Sources_row (w : World) (b off c b' off' c' : Nat) (xa xb : List MarkV) (hl : xa.length = xb.length) (hs : xa.length ≤ 1048576) (hA : MarkAt w b off xa) (hB : MarkAt w b' off' xb) (hb : b < w.heap.size) (hb' : b' < w.heap.size) :
    Calls Try.prog 55 #[.slice (some ⟨b, off, none⟩) xa.length c, .slice (some ⟨b', off', none⟩) xb.length c'] w fun e w' => e = .returned (.bool (srcB xa xb)) ∧ Below w.heap.size w w' := by
  have HA := hide hA
  have HB := hide hB
  have HL := hide hl
  clear hA hB
  rw [← hl]
  clear hl
  go_enter Try.func55, Try.ntmps55
  go_wp2_with fail
  go_loopw [5] (fun i wr => ∃ k : Nat, k ≤ xa.length ∧ i = .int .i64 k ∧ Hid (∀ j (h : j < xa.length) (h' : j < xb.length), j < k → xa[j].a0 = xb[j].a0) ∧ Hid (Below w.heap.size w wr)) (fun i _ => xa.length - (intOf i).toNat)
  case atStart => exact ⟨0, Nat.zero_le _, rfl, hide (fun j _ _ hj => absurd hj (Nat.not_lt_zero _)), Below.refl _ _⟩
  case round =>
    obtain ⟨k, hk, rfl, HN, HBr⟩ := hrel
    by_cases hlt : k < xa.length
    · have hlt' : k < xb.length := by have := unhide HL; omega
      have c0 := ((unhide HA).below (unhide HBr) hb k hlt).1
      have d0 := ((unhide HB).below (unhide HBr) hb' k hlt').1
      by_cases he : xa[k].a0 = xb[k].a0
      · have HN2 := hide (show ∀ j (h : j < xa.length) (h' : j < xb.length), j < k + 1 → xa[j].a0 = xb[j].a0 from fun j h h' hj => by
          by_cases e : j = k
          · subst e; exact he
          · exact unhide HN j h h' (by omega))
        rw [← he] at d0
        clear he
        generalize xa[k].a0 = nm at *
        go_wp2_with fail
        go_quiet (fail)
        go_wp2_with fail
        go_roundw
        case rel => exact ⟨k + 1, by omega, by go_num, HN2, hide ((unhide HBr).trans ((belowN _ _).mono (unhide HBr).size))⟩
        case measure => simp [intOf]; omega
      · have HR := hide (src_off hlt hlt' he).symm
        have qe : (xa[k].a0.toList == xb[k].a0.toList) = false := by rw [str_same]; simpa using he
        clear he
        generalize xa[k].a0 = nm at *
        generalize xb[k].a0 = nb at *
        go_wp2_with fail
        go_quiet (fail)
        go_wp2_with fail
        go_ret
        exact ⟨ret_bool (unhide HR), (unhide HBr).trans ((belowN _ _).mono (unhide HBr).size)⟩
    · have HR := hide (src_on (unhide HL) (fun i h h' => unhide HN i h h' (by omega))).symm
      go_wp2_with fail
      go_ret
      exact ⟨ret_bool (unhide HR), unhide HBr⟩
theorem l14Sources_len (w : World) (a a' : Option Addr) (c c' : Nat) (xa xb : List MarkV) (hl : xa.length ≠ xb.length) (h1 : xa.length ≤ 1048576) (h2 : xb.length ≤ 1048576) :
    Calls Try.prog 55 #[.slice a xa.length c, .slice a' xb.length c'] w fun e w' => e = .returned (.bool (srcB xa xb)) ∧ Below w.heap.size w w' := by
  have HR := hide (src_len hl).symm
  have e : ((xa.length : Int) == (xb.length : Int)) = false := by rw [beq_eq_false_iff_ne]; omega
  generalize xa.length = n at *
  generalize xb.length = m at *
  go_enter Try.func55, Try.ntmps55
  go_wp2_with fail
  go_ret
  exact ⟨ret_bool (unhide HR), Below.refl _ _⟩
theorem l14Sources_none (w : World) (a a' : Option Addr) (c c' : Nat) :
    Calls Try.prog 55 #[.slice a 0 c, .slice a' 0 c'] w fun e w' => e = .returned (.bool true) ∧ Below w.heap.size w w' := by
  go_enter Try.func55, Try.ntmps55
  go_wp2_with fail
  refine wp_loop_rounds 1 ?_
  rw [rounds_succ]
  go_wp2_with fail
  go_ret
  exact ⟨rfl, Below.refl _ _⟩
theorem l14Sources_any (xa : List MarkV) (va : Value) (xb : List MarkV) (vb : Value) (w : World) (hsa : SmallMarkS xa) (hsb : SmallMarkS xb) (hA : MarkSRd w va xa) (hB : MarkSRd w vb xb) :
    Calls Try.prog 55 #[va, vb] w fun e w' => e = .returned (.bool (srcB xa xb)) ∧ Below w.heap.size w w' := by
  obtain ⟨a, c, rfl, hA⟩ := hA
  obtain ⟨a', c', rfl, hB⟩ := hB
  by_cases hl : xa.length = xb.length
  · rcases hA with rfl | ⟨b, off, rfl, hb, hA⟩
    · have : xb = [] := List.eq_nil_of_length_eq_zero hl.symm
      subst this
      exact l14Sources_none w a a' c c'
    · rcases hB with rfl | ⟨b', off', rfl, hb', hB⟩
      · have : xa = [] := List.eq_nil_of_length_eq_zero hl
        subst this
        exact l14Sources_none w _ a' c c'
      · exact l14Sources_row w b off c b' off' c' xa xb hl hsa.1.1 hA hB hb hb'
  · exact l14Sources_len w a a' c c' xa xb hl hsa.1.1 hsb.1.1
end Go.Proofs.Ytpiapgjiaeddjaa

set_option linter.unusedVariables false
namespace Go.Proofs.Ytpiapgjiaeddjaa
open Go.RowKit Go.Maps Go.Deep

theorem icell {W w1 : World} (hb : Below W.heap.size W w1) : (∀ b o, b < W.heap.size → w1.cell? ⟨b, o, none⟩ = W.cell? ⟨b, o, none⟩) ∧ (∀ b o, b < W.heap.size → w1.frozen? ⟨b, o, none⟩ = W.frozen? ⟨b, o, none⟩) :=
  ⟨fun b o h => hb.cell (p := ⟨b, o, none⟩) h, fun b o h => hb.frozen (p := ⟨b, o, none⟩) h⟩
theorem toMarkS_own (ns : List MarkV) (v : Value) (w : World) (hs : SmallMarkS ns) (h : MarkSRd w v ns) :
    Calls Try.prog 41 #[v] w fun e w' => e = .returned (.slice (some ⟨w.heap.size, 0, none⟩) ns.length ns.length) ∧ MarkSOwn [w.heap.size] w' (.slice (some ⟨w.heap.size, 0, none⟩) ns.length ns.length) ns ∧ w.heap.size < w'.heap.size ∧ Below w.heap.size w w' := by
  obtain ⟨a, c, rfl, h⟩ := h
  refine (toMarkS_in w a c ns hs.1.1 h).mono ?_
  rintro e w' ⟨rfl, h1, h2, h3, h4⟩
  exact ⟨rfl, .inr ⟨w.heap.size, 0, ns.length, rfl, rfl, h2, h1, fun i _ => h4 _⟩, h2, h3⟩
set_option maxHeartbeats 3200000 in
theorem toItem_any (z0 : Int) (z1 : Value) (ms : List MarkV) (w : World) (hs : SmallMarkS ms) (h : MarkSRd w z1 ms) :
    Calls Try.prog 27 #[.agg #[.int .i64 z0, z1]] w fun e w' => ∃ g, e = .returned (.agg #[.int .i64 z0, .slice (some ⟨g, 0, none⟩) ms.length ms.length]) ∧ w.heap.size ≤ g ∧ MarkSOwn [g] w' (.slice (some ⟨g, 0, none⟩) ms.length ms.length) ms ∧ Below w.heap.size w w' := by
  have HA := hide (fun W (b : Below w.heap.size w W) => toMarkS_own ms z1 W hs (h.up b))
  obtain ⟨a, n, c, rfl⟩ := h.form
  clear h hs
  go_enter Try.func27, Try.ntmps27
  go_wp2_with fail
  refine (unhide HA _ (by go_grown)).mono ?_
  rintro e w1 ⟨rfl, o1, z1, b1⟩
  have O1 := hide o1
  have B1 := hide (show Below w.heap.size w w1 from Below.trans (by go_grown) (b1.mono (by simp; omega)))
  obtain ⟨hc, hf⟩ := icell b1
  clear o1 b1
  simp at z1
  have O1' := hide (show MarkSOwn [w.heap.size + 1 + 1 + 1] w1 (.slice (some ⟨w.heap.size + 1 + 1 + 1, 0, none⟩) ms.length ms.length) ms by simpa using unhide O1)
  clear O1
  have r0 : ∀ i, i < 2 → ∃ x, w1.cell? ⟨w.heap.size + 1, i, none⟩ = some x := by
    intro i hi
    rw [hc _ _ (by simp), World.cell?_alloc_past _ _ _ (by simp), World.cell?_alloc_at _ _ _ _ (by simp)]
    match i, hi with
    | 0, _ => exact ⟨_, rfl⟩
    | 1, _ => exact ⟨_, rfl⟩
  obtain ⟨q0, r0'⟩ := r0 0 (by omega)
  obtain ⟨q1, r1'⟩ := r0 1 (by omega)
  clear r0
  go_wp2_with fail
  refine bodyPost_ret (v := .agg #[.int .i64 z0, .slice (some ⟨w.heap.size + 1 + 1 + 1, 0, none⟩) ms.length ms.length]) (by simp [results, Try.results27, go_sem, r0', r1']) rfl ?_
  have key : ∀ W, Turn [w.heap.size + 1, w.heap.size + 1 + 1] w1 W → ∃ g, Ending.returned (.agg #[.int .i64 z0, .slice (some ⟨w.heap.size + 1 + 1 + 1, 0, none⟩) ms.length ms.length]) = .returned (.agg #[.int .i64 z0, .slice (some ⟨g, 0, none⟩) ms.length ms.length]) ∧ w.heap.size ≤ g ∧ MarkSOwn [g] W (.slice (some ⟨g, 0, none⟩) ms.length ms.length) ms ∧ Below w.heap.size w W := fun W ht =>
    ⟨_, rfl, by omega, (unhide O1').turn ht (fun k hk hm => by simp at hk hm; omega), (unhide B1).trans (ht.below (unhide B1).size (fun k hk => by simp at hk; omega))⟩
  exact key _ ((((Turn.refl _ _).setCell (by simp) _ _).setCell (by simp) _ _).setCell (by simp) _ _)
set_option maxHeartbeats 3200000 in
theorem eqItem_any (z0 : Int) (z1 z1' : Value) (ms : List MarkV) (w : World) (hs : SmallMarkS ms) (h : MarkSRd w z1 ms) (h' : MarkSRd w z1' ms) :
    Calls Try.prog 35 #[.agg #[.int .i64 z0, z1], .agg #[.int .i64 z0, z1']] w fun e w' => e = .returned (.bool true) ∧ Below w.heap.size w w' := by
  have HA := hide (fun W (b : Below w.heap.size w W) => eqMarkS_kit ms z1 z1' W hs (h.up b) (h'.up b))
  obtain ⟨a, n, c, rfl⟩ := h.form
  obtain ⟨a', n', c', rfl⟩ := h'.form
  clear h h' hs
  go_enter Try.func35, Try.ntmps35
  go_wp2_with fail
  refine (unhide HA _ (by go_grown)).mono ?_
  rintro e w1 ⟨rfl, b1⟩
  have B1 := hide (show Below w.heap.size w w1 from Below.trans (by go_grown) (b1.mono (by simp; omega)))
  clear b1
  go_wp2_with fail
  go_ret
  exact ⟨rfl, unhide B1⟩
end Go.Proofs.Ytpiapgjiaeddjaa

set_option linter.unusedVariables false
namespace Go.Proofs.Ytpiapgjiaeddjaa
open Go.RowKit Go.Maps Go.Deep

set_option maxHeartbeats 1600000 in
theorem sameSource_any (x y : MarkV) (w : World) :
    Calls Try.prog 84 #[.agg #[.string x.a0, .int .i64 x.a1], .agg #[.string y.a0, .int .i64 y.a1]] w fun e w' => e = .returned (.bool (x.a0.toList == y.a0.toList)) ∧ Below w.heap.size w w' := by
  go_enter Try.func84, Try.ntmps84
  go_wp2_with fail
  go_ret
  exact ⟨rfl, by go_grown⟩
set_option maxHeartbeats 3200000 in
theorem equalFunc_row (w : World) (b off c b' off' c' : Nat) (xa xb : List MarkV) (hl : xa.length = xb.length) (hs : xa.length ≤ 1048576) (hA : MarkAt w b off xa) (hB : MarkAt w b' off' xb) (hb : b < w.heap.size) (hb' : b' < w.heap.size) :
    Calls Try.prog 85 #[.slice (some ⟨b, off, none⟩) xa.length c, .slice (some ⟨b', off', none⟩) xb.length c', .func (.func 84) #[] #[]] w fun e w' => e = .returned (.bool (srcB xa xb)) ∧ Below w.heap.size w w' := by
  have HA := hide hA
  have HB := hide hB
  have HL := hide hl
  clear hA hB
  rw [← hl]
  clear hl
  go_enter Try.func85, Try.ntmps85
  go_wp2_with fail
  go_loopw [17] (fun i wr => ∃ k : Nat, k ≤ xa.length ∧ i = .int .i64 k ∧ Hid (∀ j (h : j < xa.length) (h' : j < xb.length), j < k → xa[j].a0 = xb[j].a0) ∧ Hid (Below w.heap.size w wr)) (fun i _ => xa.length - (intOf i).toNat)
  case atStart => exact ⟨0, Nat.zero_le _, rfl, hide (fun j _ _ hj => absurd hj (Nat.not_lt_zero _)), Below.refl _ _⟩
  case round =>
    obtain ⟨k, hk, rfl, HN, HBr⟩ := hrel
    by_cases hlt : k < xa.length
    · have hlt' : k < xb.length := by have := unhide HL; omega
      obtain ⟨c0, c1⟩ := (unhide HA).below (unhide HBr) hb k hlt
      obtain ⟨d0, d1⟩ := (unhide HB).below (unhide HBr) hb' k hlt'
      have hbr := Nat.lt_of_lt_of_le hb (unhide HBr).size
      have hbr' := Nat.lt_of_lt_of_le hb' (unhide HBr).size
      have HC := hide (fun W => sameSource_any xa[k] xb[k] W)
      have HUP := hide (show (xa[k].a0.toList == xb[k].a0.toList) = true → ∀ j (h : j < xa.length) (h' : j < xb.length), j < k + 1 → xa[j].a0 = xb[j].a0 from fun he j h h' hj => by
          by_cases e : j = k
          · subst e; rw [str_same] at he; simpa using he
          · exact unhide HN j h h' (by omega))
      have HDN := hide (show (xa[k].a0.toList == xb[k].a0.toList) = false → false = srcB xa xb from fun he => (src_off hlt hlt' (by rw [str_same] at he; simpa using he)).symm)
      generalize (xa[k].a0.toList == xb[k].a0.toList) = q at *
      generalize xa[k].a0 = nm at *
      generalize xa[k].a1 = vl at *
      generalize xb[k].a0 = nb at *
      generalize xb[k].a1 = vb at *
      go_wp2_with fail
      refine (unhide HC _).mono ?_
      rintro e w1 ⟨rfl, b1⟩
      have B1 := hide ((unhide HBr).trans (Below.mono (Below.trans (by go_grown : Below wr.heap.size wr _) (b1.mono (by simp; omega))) (unhide HBr).size))
      clear b1 c0 c1 d0 d1
      cases q
      · have HR := hide (unhide HDN rfl)
        clear HDN HUP
        go_wp2_with fail
        go_ret
        exact ⟨ret_bool (unhide HR), unhide B1⟩
      · have HN2 := hide (unhide HUP rfl)
        clear HDN HUP
        go_wp2_with fail
        go_roundw
        case rel => exact ⟨k + 1, by omega, by go_num, HN2, B1⟩
        case measure => simp [intOf]; omega
    · have HR := hide (src_on (unhide HL) (fun i h h' => unhide HN i h h' (by omega))).symm
      go_wp2_with fail
      go_ret
      exact ⟨ret_bool (unhide HR), unhide HBr⟩
theorem equalFunc_len (w : World) (a a' : Option Addr) (c c' : Nat) (xa xb : List MarkV) (hl : xa.length ≠ xb.length) (h1 : xa.length ≤ 1048576) (h2 : xb.length ≤ 1048576) :
    Calls Try.prog 85 #[.slice a xa.length c, .slice a' xb.length c', .func (.func 84) #[] #[]] w fun e w' => e = .returned (.bool (srcB xa xb)) ∧ Below w.heap.size w w' := by
  have HR := hide (src_len hl).symm
  have e : ((xa.length : Int) == (xb.length : Int)) = false := by rw [beq_eq_false_iff_ne]; omega
  generalize xa.length = n at *
  generalize xb.length = m at *
  go_enter Try.func85, Try.ntmps85
  go_wp2_with fail
  go_ret
  exact ⟨ret_bool (unhide HR), Below.refl _ _⟩
theorem equalFunc_none (w : World) (a a' : Option Addr) (c c' : Nat) :
    Calls Try.prog 85 #[.slice a 0 c, .slice a' 0 c', .func (.func 84) #[] #[]] w fun e w' => e = .returned (.bool true) ∧ Below w.heap.size w w' := by
  go_enter Try.func85, Try.ntmps85
  go_wp2_with fail
  refine wp_loop_rounds 1 ?_
  rw [rounds_succ]
  go_wp2_with fail
  go_ret
  exact ⟨rfl, Below.refl _ _⟩
theorem equalFunc_any (xa : List MarkV) (va : Value) (xb : List MarkV) (vb : Value) (w : World) (hsa : SmallMarkS xa) (hsb : SmallMarkS xb) (hA : MarkSRd w va xa) (hB : MarkSRd w vb xb) :
    Calls Try.prog 85 #[va, vb, .func (.func 84) #[] #[]] w fun e w' => e = .returned (.bool (srcB xa xb)) ∧ Below w.heap.size w w' := by
  obtain ⟨a, c, rfl, hA⟩ := hA
  obtain ⟨a', c', rfl, hB⟩ := hB
  by_cases hl : xa.length = xb.length
  · rcases hA with rfl | ⟨b, off, rfl, hb, hA⟩
    · have : xb = [] := List.eq_nil_of_length_eq_zero hl.symm
      subst this
      exact equalFunc_none w a a' c c'
    · rcases hB with rfl | ⟨b', off', rfl, hb', hB⟩
      · have : xa = [] := List.eq_nil_of_length_eq_zero hl
        subst this
        exact equalFunc_none w _ a' c c'
      · exact equalFunc_row w b off c b' off' c' xa xb hl hsa.1.1 hA hB hb hb'
  · exact equalFunc_len w a a' c c' xa xb hl hsa.1.1 hsb.1.1
end Go.Proofs.Ytpiapgjiaeddjaa
