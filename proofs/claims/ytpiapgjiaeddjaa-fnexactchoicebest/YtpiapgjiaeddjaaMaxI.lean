/-
  The greatest and the least of some windows by their version of a source: the program's slices.MaxFunc, slices.MinFunc. (Made by mkmax.py.)
-/
import Derived.Test.YtpiapgjiaeddjaaVerI
set_option linter.unusedVariables false
namespace Go.Proofs.Ytpiapgjiaeddjaa
open Go.RowKit Go.Maps Go.Deep

def maxFP (V : Nat → Int) (ns : List Nat) : Nat → Nat
  | 0 => ns.getD 0 0
  | i + 1 => if V (maxFP V ns i) < V (ns.getD (i + 1) 0) then ns.getD (i + 1) 0 else maxFP V ns i
set_option maxRecDepth 20000 in
set_option maxHeartbeats 1600000 in
theorem maxF_any {w : World} {g cap L : Nat} {ns : List Nat} {V : Nat → Int} {P2 P3 : Value} (H : ∀ X, Below w.heap.size w X → ∀ a b : Nat, a < L → b < L → Calls Try.prog 46 #[.int .i64 (a : Int), .int .i64 (b : Int), P2, P3] X fun e w' => e = .returned (.int .i64 (cmpI (V a) (V b))) ∧ Below X.heap.size X w')
    (hc : ∀ i (h : i < ns.length), w.cell? ⟨g, i, none⟩ = some (.int .i64 ((ns[i] : Nat) : Int))) (h0 : 0 < ns.length) (hl : ns.length ≤ 1000000) (hn : ∀ a ∈ ns, a < L) :
    Calls Try.prog 49 #[.slice (some ⟨g, 0, none⟩) ns.length cap, .func (.func 46) #[] #[P2, P3]] w fun e w' => e = .returned (.int .i64 ((maxFP V ns (ns.length - 1) : Nat) : Int)) ∧ Below w.heap.size w w' := by
  have HH := hide H
  have HC := hide hc
  have HN := hide hn
  have c0 := hc 0 h0
  have HP0 := hide (show ns[0] = maxFP V ns 0 by simp [maxFP, List.getD_eq_getElem?_getD, h0])
  have HM0 := hide (show ns[0] ∈ ns ∧ ∀ j (h : j < ns.length), j < 1 → V ns[j] ≤ V ns[0] from ⟨List.getElem_mem h0, fun j h hj => by
    have e : j = 0 := Nat.lt_one_iff.1 hj
    subst e
    exact Int.le_refl _⟩)
  generalize ns[0] = m0 at *
  clear H hc hn
  go_enter Try.func49, Try.ntmps49
  go_wp2_with fail
  clear c0
  go_loopw [5, 6] (fun mv iv wr => ∃ (i m : Nat), 1 ≤ i ∧ i ≤ ns.length ∧ mv = .int .i64 (m : Int) ∧ iv = .int .i64 (i : Int) ∧ Hid (m = maxFP V ns (i - 1)) ∧ Hid (m ∈ ns ∧ ∀ j (h : j < ns.length), j < i → V ns[j] ≤ V m) ∧ Hid (Below w.heap.size w wr)) (fun _ iv _ => ns.length - (intOf iv).toNat)
  case atStart => exact ⟨1, m0, Nat.le_refl _, by omega, rfl, rfl, HP0, HM0, Below.refl _ _⟩
  case round =>
    obtain ⟨i, m, hi1, hi, rfl, rfl, HP, HM, HB⟩ := hrel
    by_cases hlt : i < ns.length
    · have c1 := ((unhide HB).cell (show g < w.heap.size from lt_of_cell0 (unhide HC 0 h0))).trans (unhide HC i hlt)
      have HX := hide (show ns[i] ∈ ns from List.getElem_mem hlt)
      have HY := hide (show (V m < V ns[i] → ns[i] = maxFP V ns (i + 1 - 1)) ∧ (¬ V m < V ns[i] → m = maxFP V ns (i + 1 - 1)) by
        have hp := unhide HP
        obtain ⟨k, rfl⟩ : ∃ k, i = k + 1 := ⟨i - 1, by omega⟩
        rw [Nat.add_sub_cancel] at hp ⊢
        have hg : ns.getD (k + 1) 0 = ns[k + 1] := by rw [List.getD_eq_getElem?_getD, List.getElem?_eq_getElem hlt]; rfl
        unfold maxFP
        rw [hg, ← hp]
        exact ⟨fun h => (if_pos h).symm, fun h => (if_neg h).symm⟩)
      have HS := hide (show (V m < V ns[i] → ns[i] ∈ ns ∧ ∀ j (h : j < ns.length), j < i + 1 → V ns[j] ≤ V ns[i]) ∧ (¬ V m < V ns[i] → m ∈ ns ∧ ∀ j (h : j < ns.length), j < i + 1 → V ns[j] ≤ V m) from
        ⟨fun hb => ⟨List.getElem_mem hlt, fun j h hj => by
          by_cases e : j = i
          · subst e; exact Int.le_refl _
          · have := (unhide HM).2 j h (by omega); omega⟩, fun hb => ⟨(unhide HM).1, fun j h hj => by
          by_cases e : j = i
          · subst e; omega
          · exact (unhide HM).2 j h (by omega)⟩⟩)
      have HQ := hide (unhide HH wr (unhide HB) ns[i] m (unhide HN _ (List.getElem_mem hlt)) (unhide HN _ (unhide HM).1))
      generalize ns[i] = x at *
      by_cases hb : V m < V x
      · have HE := hide ((unhide HS).1 hb)
        have HE2 := hide ((unhide HY).1 hb)
        have hv : cmpI (V x) (V m) = 1 := by unfold cmpI; rw [if_neg (by omega), if_pos hb]
        rw [hv] at HQ
        clear HS HM HY HP
        go_wp2_with (go_at_call 46; refine (unhide HQ).mono ?_; rintro e w1 ⟨rfl, k1⟩; have B1 := hide ((unhide HB).trans (k1.mono (unhide HB).size)); have c2 := (k1.cell (lt_of_cell0 c1)).trans c1; clear k1)
        clear c1 c2
        go_roundw
        case rel => exact ⟨i + 1, x, by omega, by omega, rfl, by go_num, HE2, HE, B1⟩
        case measure => simp [intOf]; omega
      · have HE := hide ((unhide HS).2 hb)
        have HE2 := hide ((unhide HY).2 hb)
        obtain ⟨c, hcv, hle⟩ : ∃ c : Int, cmpI (V x) (V m) = c ∧ c ≤ 0 := ⟨_, rfl, by unfold cmpI; split <;> (try split) <;> omega⟩
        rw [hcv] at HQ
        clear HS HM HY HP hcv
        go_wp2_with (go_at_call 46; refine (unhide HQ).mono ?_; rintro e w1 ⟨rfl, k1⟩; have B1 := hide ((unhide HB).trans (k1.mono (unhide HB).size)); clear k1)
        clear c1
        go_roundw
        case rel => exact ⟨i + 1, m, by omega, by omega, rfl, by go_num, HE2, HE, B1⟩
        case measure => simp [intOf]; omega
    · obtain rfl : i = ns.length := by omega
      have HE := unhide HP
      go_wp2_with fail
      go_ret
      exact ⟨by rw [← HE]; rfl, unhide HB⟩
theorem maxFP_is (V : Nat → Int) (ns : List Nat) : ∀ i, i < ns.length → maxFP V ns i ∈ ns ∧ ∀ j (h : j < ns.length), j ≤ i → V ns[j] ≤ V (maxFP V ns i)
  | 0, h0 => by
    have e : maxFP V ns 0 = ns[0] := by simp [maxFP, List.getD_eq_getElem?_getD, h0]
    rw [e]
    refine ⟨List.getElem_mem h0, fun j h hj => ?_⟩
    have e : j = 0 := Nat.le_zero.1 hj
    subst e
    exact Int.le_refl _
  | i + 1, h => by
    obtain ⟨h1, h2⟩ := maxFP_is V ns i (by omega)
    have hg : ns.getD (i + 1) 0 = ns[i + 1] := by rw [List.getD_eq_getElem?_getD, List.getElem?_eq_getElem h]; rfl
    unfold maxFP
    rw [hg]
    split
    · refine ⟨List.getElem_mem h, fun j hj hji => ?_⟩
      by_cases e : j = i + 1
      · subst e; exact Int.le_refl _
      · have := h2 j hj (by omega); omega
    · refine ⟨h1, fun j hj hji => ?_⟩
      by_cases e : j = i + 1
      · subst e; omega
      · exact h2 j hj (by omega)
theorem maxFP_of (V : Nat → Int) {ns : List Nat} (h0 : 0 < ns.length) : maxFP V ns (ns.length - 1) ∈ ns ∧ ∀ a ∈ ns, V a ≤ V (maxFP V ns (ns.length - 1)) := by
  obtain ⟨h1, h2⟩ := maxFP_is V ns (ns.length - 1) (by omega)
  refine ⟨h1, fun a ha => ?_⟩
  obtain ⟨j, hj, rfl⟩ := List.getElem_of_mem ha
  exact h2 j hj (by omega)
def minFP (V : Nat → Int) (ns : List Nat) : Nat → Nat
  | 0 => ns.getD 0 0
  | i + 1 => if V (ns.getD (i + 1) 0) < V (minFP V ns i) then ns.getD (i + 1) 0 else minFP V ns i
set_option maxRecDepth 20000 in
set_option maxHeartbeats 1600000 in
theorem minF_any {w : World} {g cap L : Nat} {ns : List Nat} {V : Nat → Int} {P2 P3 : Value} (H : ∀ X, Below w.heap.size w X → ∀ a b : Nat, a < L → b < L → Calls Try.prog 46 #[.int .i64 (a : Int), .int .i64 (b : Int), P2, P3] X fun e w' => e = .returned (.int .i64 (cmpI (V a) (V b))) ∧ Below X.heap.size X w')
    (hc : ∀ i (h : i < ns.length), w.cell? ⟨g, i, none⟩ = some (.int .i64 ((ns[i] : Nat) : Int))) (h0 : 0 < ns.length) (hl : ns.length ≤ 1000000) (hn : ∀ a ∈ ns, a < L) :
    Calls Try.prog 50 #[.slice (some ⟨g, 0, none⟩) ns.length cap, .func (.func 46) #[] #[P2, P3]] w fun e w' => e = .returned (.int .i64 ((minFP V ns (ns.length - 1) : Nat) : Int)) ∧ Below w.heap.size w w' := by
  have HH := hide H
  have HC := hide hc
  have HN := hide hn
  have c0 := hc 0 h0
  have HP0 := hide (show ns[0] = minFP V ns 0 by simp [minFP, List.getD_eq_getElem?_getD, h0])
  have HM0 := hide (show ns[0] ∈ ns ∧ ∀ j (h : j < ns.length), j < 1 → V ns[0] ≤ V ns[j] from ⟨List.getElem_mem h0, fun j h hj => by
    have e : j = 0 := Nat.lt_one_iff.1 hj
    subst e
    exact Int.le_refl _⟩)
  generalize ns[0] = m0 at *
  clear H hc hn
  go_enter Try.func50, Try.ntmps50
  go_wp2_with fail
  clear c0
  go_loopw [5, 6] (fun mv iv wr => ∃ (i m : Nat), 1 ≤ i ∧ i ≤ ns.length ∧ mv = .int .i64 (m : Int) ∧ iv = .int .i64 (i : Int) ∧ Hid (m = minFP V ns (i - 1)) ∧ Hid (m ∈ ns ∧ ∀ j (h : j < ns.length), j < i → V m ≤ V ns[j]) ∧ Hid (Below w.heap.size w wr)) (fun _ iv _ => ns.length - (intOf iv).toNat)
  case atStart => exact ⟨1, m0, Nat.le_refl _, by omega, rfl, rfl, HP0, HM0, Below.refl _ _⟩
  case round =>
    obtain ⟨i, m, hi1, hi, rfl, rfl, HP, HM, HB⟩ := hrel
    by_cases hlt : i < ns.length
    · have c1 := ((unhide HB).cell (show g < w.heap.size from lt_of_cell0 (unhide HC 0 h0))).trans (unhide HC i hlt)
      have HX := hide (show ns[i] ∈ ns from List.getElem_mem hlt)
      have HY := hide (show (V ns[i] < V m → ns[i] = minFP V ns (i + 1 - 1)) ∧ (¬ V ns[i] < V m → m = minFP V ns (i + 1 - 1)) by
        have hp := unhide HP
        obtain ⟨k, rfl⟩ : ∃ k, i = k + 1 := ⟨i - 1, by omega⟩
        rw [Nat.add_sub_cancel] at hp ⊢
        have hg : ns.getD (k + 1) 0 = ns[k + 1] := by rw [List.getD_eq_getElem?_getD, List.getElem?_eq_getElem hlt]; rfl
        unfold minFP
        rw [hg, ← hp]
        exact ⟨fun h => (if_pos h).symm, fun h => (if_neg h).symm⟩)
      have HS := hide (show (V ns[i] < V m → ns[i] ∈ ns ∧ ∀ j (h : j < ns.length), j < i + 1 → V ns[i] ≤ V ns[j]) ∧ (¬ V ns[i] < V m → m ∈ ns ∧ ∀ j (h : j < ns.length), j < i + 1 → V m ≤ V ns[j]) from
        ⟨fun hb => ⟨List.getElem_mem hlt, fun j h hj => by
          by_cases e : j = i
          · subst e; exact Int.le_refl _
          · have := (unhide HM).2 j h (by omega); omega⟩, fun hb => ⟨(unhide HM).1, fun j h hj => by
          by_cases e : j = i
          · subst e; omega
          · exact (unhide HM).2 j h (by omega)⟩⟩)
      have HQ := hide (unhide HH wr (unhide HB) ns[i] m (unhide HN _ (List.getElem_mem hlt)) (unhide HN _ (unhide HM).1))
      generalize ns[i] = x at *
      by_cases hb : V x < V m
      · have HE := hide ((unhide HS).1 hb)
        have HE2 := hide ((unhide HY).1 hb)
        have hv : cmpI (V x) (V m) = -1 := by unfold cmpI; rw [if_pos hb]
        rw [hv] at HQ
        clear HS HM HY HP
        go_wp2_with (go_at_call 46; refine (unhide HQ).mono ?_; rintro e w1 ⟨rfl, k1⟩; have B1 := hide ((unhide HB).trans (k1.mono (unhide HB).size)); have c2 := (k1.cell (lt_of_cell0 c1)).trans c1; clear k1)
        clear c1 c2
        go_roundw
        case rel => exact ⟨i + 1, x, by omega, by omega, rfl, by go_num, HE2, HE, B1⟩
        case measure => simp [intOf]; omega
      · have HE := hide ((unhide HS).2 hb)
        have HE2 := hide ((unhide HY).2 hb)
        obtain ⟨c, hcv, hle⟩ : ∃ c : Int, cmpI (V x) (V m) = c ∧ 0 ≤ c := ⟨_, rfl, by unfold cmpI; split <;> (try split) <;> omega⟩
        rw [hcv] at HQ
        clear HS HM HY HP hcv
        go_wp2_with (go_at_call 46; refine (unhide HQ).mono ?_; rintro e w1 ⟨rfl, k1⟩; have B1 := hide ((unhide HB).trans (k1.mono (unhide HB).size)); clear k1)
        clear c1
        go_roundw
        case rel => exact ⟨i + 1, m, by omega, by omega, rfl, by go_num, HE2, HE, B1⟩
        case measure => simp [intOf]; omega
    · obtain rfl : i = ns.length := by omega
      have HE := unhide HP
      go_wp2_with fail
      go_ret
      exact ⟨by rw [← HE]; rfl, unhide HB⟩
theorem minFP_is (V : Nat → Int) (ns : List Nat) : ∀ i, i < ns.length → minFP V ns i ∈ ns ∧ ∀ j (h : j < ns.length), j ≤ i → V (minFP V ns i) ≤ V ns[j]
  | 0, h0 => by
    have e : minFP V ns 0 = ns[0] := by simp [minFP, List.getD_eq_getElem?_getD, h0]
    rw [e]
    refine ⟨List.getElem_mem h0, fun j h hj => ?_⟩
    have e : j = 0 := Nat.le_zero.1 hj
    subst e
    exact Int.le_refl _
  | i + 1, h => by
    obtain ⟨h1, h2⟩ := minFP_is V ns i (by omega)
    have hg : ns.getD (i + 1) 0 = ns[i + 1] := by rw [List.getD_eq_getElem?_getD, List.getElem?_eq_getElem h]; rfl
    unfold minFP
    rw [hg]
    split
    · refine ⟨List.getElem_mem h, fun j hj hji => ?_⟩
      by_cases e : j = i + 1
      · subst e; exact Int.le_refl _
      · have := h2 j hj (by omega); omega
    · refine ⟨h1, fun j hj hji => ?_⟩
      by_cases e : j = i + 1
      · subst e; omega
      · exact h2 j hj (by omega)
theorem minFP_of (V : Nat → Int) {ns : List Nat} (h0 : 0 < ns.length) : minFP V ns (ns.length - 1) ∈ ns ∧ ∀ a ∈ ns, V (minFP V ns (ns.length - 1)) ≤ V a := by
  obtain ⟨h1, h2⟩ := minFP_is V ns (ns.length - 1) (by omega)
  refine ⟨h1, fun a ha => ?_⟩
  obtain ⟨j, hj, rfl⟩ := List.getElem_of_mem ha
  exact h2 j hj (by omega)
end Go.Proofs.Ytpiapgjiaeddjaa
