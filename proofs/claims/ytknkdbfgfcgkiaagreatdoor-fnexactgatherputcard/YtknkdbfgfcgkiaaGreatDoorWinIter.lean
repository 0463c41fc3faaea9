/-
  Windows: the program's ring in memory, and its iterator: what it hands to a loop's body, from the last item on.
-/
import Derived.Test.YtknkdbfgfcgkiaaGreatDoorMerged11
import Derived.WalkKit
set_option linter.unusedVariables false
namespace Go.Proofs.YtknkdbfgfcgkiaaGreatDoor
open Go.RowKit Go.Maps Go.Shelf

attribute [local go_sem] Oper.semAt_some

/-- an item as it lies in memory: its number, and where its marks lie -/
structure RawI where
 z : Int
 a : Option Addr
 n : Nat
 c : Nat
def RawI.v (x : RawI) : Value := .slice x.a x.n x.c
/-- a ring in memory: from which place on, and what lies there -/
structure RingAt (w : World) (g st : Nat) (xs : List RawI) : Prop where
 lt : g < w.heap.size
 s4 : st < 4
 len : xs.length ≤ 4
 c8 : w.cell? ⟨g, 8, none⟩ = some (.int .i64 (st : Int))
 c9 : w.cell? ⟨g, 9, none⟩ = some (.int .i64 (xs.length : Int))
 has : ∀ i (h : i < xs.length), w.cell? ⟨g, (st + i) % 4 * 2, none⟩ = some (.int .i64 xs[i].z) ∧ w.cell? ⟨g, (st + i) % 4 * 2 + 1, none⟩ = some xs[i].v
theorem RingAt.of_cells {w w' : World} {g st : Nat} {xs : List RawI} (h : RingAt w g st xs) (hl : w.heap.size ≤ w'.heap.size) (hc : ∀ i, w'.cell? ⟨g, i, none⟩ = w.cell? ⟨g, i, none⟩) : RingAt w' g st xs :=
 ⟨Nat.lt_of_lt_of_le h.lt hl, h.s4, h.len, (hc 8).trans h.c8, (hc 9).trans h.c9, fun i hi => ⟨(hc _).trans (h.has i hi).1, (hc _).trans (h.has i hi).2⟩⟩
theorem RingAt.up {w w' : World} {g st : Nat} {xs : List RawI} (h : RingAt w g st xs) (hb : Below w.heap.size w w') : RingAt w' g st xs := h.of_cells hb.size fun i => hb.cell (by exact h.lt)
theorem RingAt.keep {w w' : World} {g st : Nat} {xs : List RawI} (h : RingAt w g st xs) {n₀ : Nat} {S : List Nat} (hk : Keep n₀ S w w') (hg : g < n₀) (hS : g ∉ S) : RingAt w' g st xs := h.of_cells hk.size fun i => hk.cell hg hS
theorem RingAt.turn {w w' : World} {g st : Nat} {xs : List RawI} {S : List Nat} (h : RingAt w g st xs) (ht : Turn S w w') (hS : g ∉ S) : RingAt w' g st xs := h.of_cells ht.size fun i => ht.cell h.lt hS

def ringX0 : RawI := ⟨0, none, 0, 0⟩
/-- what has come when k rounds are over -/
def lastL (xs : List RawI) (k : Nat) : List (Nat × RawI) := (List.range k).map fun j => (xs.length - 1 - j, xs[xs.length - 1 - j]?.getD ringX0)
theorem lastL_succ (xs : List RawI) (k : Nat) : lastL xs (k + 1) = lastL xs k ++ [(xs.length - 1 - k, xs[xs.length - 1 - k]?.getD ringX0)] := by simp [lastL, List.range_succ]
theorem lastL_len (xs : List RawI) (k : Nat) : (lastL xs k).length = k := by simp [lastL]
def encI (x : Nat × RawI) : Array Value := #[.int .i64 (x.1 : Int), .agg #[.int .i64 x.2.z, x.2.v]]

set_option maxRecDepth 100000 in
set_option maxHeartbeats 4000000 in
theorem last1_in (n : Nat) (hn : 1 ≤ n) (l Br n₀ g st : Nat) (xs : List RawI) (S : List Nat) (hg : g < n₀) (hBn : Br < n₀) (hSg : g ∉ S) (hSb : Br ∉ S) (J Jx : List (Nat × RawI) → World → Prop) (hJ : ∀ pre X Y, J pre X → Below X.heap.size X Y → J pre Y)
  (hY : ∀ pre x W, x ∈ lastL xs xs.length → J pre W → pre.length < xs.length → YieldAt Fence.wide (n - 1) Tryz.prog l (encI x) W fun e W' =>
   (e = .returned (.bool true) ∧ J (pre ++ [x]) W' ∧ Keep n₀ S W W') ∨ (e = .returned (.bool false) ∧ Jx (pre ++ [x]) W'))
  (W : World) (hBr : W.cell? ⟨Br, 0, none⟩ = some (.pointer (some ⟨g, 0, none⟩))) (hr : RingAt W g st xs) (h0 : J [] W) :
  CallsIn Fence.wide n Tryz.prog 122 #[.func (.yield l) #[] #[], .pointer (some ⟨Br, 0, none⟩)] W fun e W' => (∃ v, e = .returned v) ∧
   ((∃ ys, ys = lastL xs xs.length ∧ J ys W') ∨ (∃ pre, (∃ k, k ≤ xs.length ∧ pre = lastL xs k) ∧ Jx pre W')) := by
 have HJ := hide hJ
 have HY := hide hY
 have HRG := hide hr
 have hlen := hr.len
 have c9 := hr.c9
 have HJ0 := hide h0
 clear hJ hY hr h0
 refine callsIn_of_wp Tryz.func122 rfl trivial ?_ rfl
 simp only [Tryz.ntmps122, List.size_toArray, List.length_cons, List.length_nil, Nat.reduceAdd, Nat.reduceSub, Array.replicate_succ, Array.replicate_zero, List.push_toArray, List.append_toArray, List.nil_append, List.cons_append]
 gi_wp2
 clear c9
 gi_loopw [3] (fun i wr => ∃ k : Nat, k ≤ xs.length ∧ i = .int .i64 ((xs.length : Int) - 1 - k) ∧ Hid (J (lastL xs k) wr) ∧ Hid (Keep n₀ S W wr))
  (fun i _ => (intOf i + 1).toNat)
 case atStart => exact ⟨0, Nat.zero_le _, by simp, HJ0, Keep.refl _ _ _⟩
 case round =>
  obtain ⟨k, hk, rfl, HJs, HB⟩ := hrel
  by_cases hlt : k < xs.length
  ·obtain ⟨q, hq⟩ : ∃ q : Nat, q = xs.length - 1 - k := ⟨_, rfl⟩
   have hql : q < xs.length := by omega
   have hqi : (xs.length : Int) - 1 - k = q := by omega
   have HRD := hide ((unhide HRG).keep (unhide HB) hg hSg)
   have HSL := hide (slot_any wr.drew g st q (unhide HRD).c8 (unhide HRD).s4 (by omega))
   have cb := ((unhide HB).cell (i := 0) hBn hSb).trans hBr
   obtain ⟨d0, d1⟩ := (unhide HRD).has q hql
   have HJd := hide (unhide HJ _ wr wr.drew (unhide HJs) (Below.refl _ _).drew)
   have hx : xs[q] = xs[xs.length - 1 - k]?.getD ringX0 := by rw [← hq, List.getElem?_eq_getElem hql]; rfl
   have hm : (q, xs[q]) ∈ lastL xs xs.length := by
    simp only [lastL, List.mem_map, List.mem_range]
    refine ⟨k, hlt, ?_⟩
    rw [← hx, ← hq]
   obtain ⟨fn, tmps, assign, body, hy, hR⟩ := unhide HY _ (q, xs[q]) wr.drew hm (unhide HJd) (by rw [lastL_len]; exact hlt)
   have hS : lastL xs (k + 1) = lastL xs k ++ [(q, xs[q])] := by rw [lastL_succ, ← hq, List.getElem?_eq_getElem hql]; rfl
   rw [← hS] at hR
   have HR := hide hR
   clear hR hx hS hm HJs HJd
   have e0 : wr.drew.cell? ⟨g, (st + q) % 4 * 2, none⟩ = _ := d0
   have e1 : wr.drew.cell? ⟨g, (st + q) % 4 * 2 + 1, none⟩ = _ := d1
   have eb : wr.drew.cell? ⟨Br, 0, none⟩ = _ := cb
   have h4 : (st + q) % 4 < 4 := by omega
   clear d0 d1 cb
   generalize (st + q) % 4 = k4 at *
   have h4' : (k4 : Int) < 4 := by omega
   generalize xs[q] = x at *
   obtain ⟨z, a, m, c⟩ := x
   dsimp only [encI, RawI.v] at hy e0 e1
   rw [hqi]
   have HQ := hide hq
   clear hq hqi
   gi_wp2
   refine wpIn_region_any (by kernel_rfl) ?_
   change wpAnyIn _ _ _ _ _ _ _ _ _ (World.drew _)
   refine wpAnyIn_take (i := 0) (v := .func (.yield l) #[] #[]) rfl rfl (by kernel_rfl) (by kernel_rfl) (by kernel_rfl) (fun _ _ _ h => h) ⟨Or.inl ⟨by rfl, ?_⟩, ?_⟩ ?_
   ·intro X
    go_simp
    try with_reducible rfl
   ·intro X
    rfl
   try simp [Act.put]
   refine wpAnyIn_take (i := 1) (v := .int .i64 (q : Int)) rfl rfl (by kernel_rfl) (by kernel_rfl) (by kernel_rfl) (fun _ _ _ h => h) ⟨Or.inl ⟨by rfl, ?_⟩, ?_⟩ ?_
   ·intro X
    go_simp
    try with_reducible rfl
   ·intro X
    rfl
   try simp [Act.put]
   refine wpAnyIn_take (i := 4) (v := .int .i64 (q : Int)) rfl rfl (by kernel_rfl) (by kernel_rfl) (by kernel_rfl) (fun _ _ _ h => h) ⟨Or.inl ⟨by rfl, ?_⟩, ?_⟩ ?_
   ·intro X
    go_simp
    try with_reducible rfl
   ·intro X
    rfl
   try simp [Act.put]
   refine wpAnyIn_ready (rs := [2, 3]) (by kernel_rfl) (by simp) ?_
   refine AllReadyIn.cons rfl (fun K hK => ?_) (AllReadyIn.cons rfl (fun K hK => ?_) AllReadyIn.nil)
   ·skip
    have hKK := hK
    clear hK
    go_simp
    refine hKK _ _ ?_
    clear hKK K
    try simp [Act.put]
    refine wpAnyIn_take (i := 6) (v := .pointer (some ⟨g, 0, none⟩)) rfl rfl (by kernel_rfl) (by kernel_rfl) (by kernel_rfl) (fun _ _ _ h => h) ⟨Or.inl ⟨by rfl, ?_⟩, ?_⟩ ?_
    ·intro X
     go_simp
     try with_reducible rfl
    ·intro X
     rfl
    try simp [Act.put]
    refine wpAnyIn_take (i := 7) (v := .pointer (some ⟨g, 0, none⟩)) rfl rfl (by kernel_rfl) (by kernel_rfl) (by kernel_rfl) (fun _ _ _ h => h) ⟨Or.inl ⟨by rfl, ?_⟩, ?_⟩ ?_
    ·intro X
     go_simp
     try with_reducible rfl
    ·intro X
     rfl
    try simp [Act.put]
    refine wpAnyIn_ready (rs := [3]) (by kernel_rfl) (by simp) ?_
    refine AllReadyIn.cons rfl (fun K hK => ?_) AllReadyIn.nil
    have hKK := hK
    clear hK
    go_simp
    refine hKK _ _ ?_
    clear hKK K
    try simp [Act.put]
    refine wpAnyIn_ready (rs := [5]) (by kernel_rfl) (by simp) ?_
    refine AllReadyIn.cons rfl (fun K hK => ?_) AllReadyIn.nil
    have hKK := hK
    clear hK
    go_simp
    refine ⟨trivial, ?_⟩
    refine (callsIn_wide.2 (unhide HSL)).mono ?_
    rintro e w5 ⟨rfl, hw5⟩
    rw [hw5]
    clear hw5
    refine hKK _ _ ?_
    clear hKK K
    try simp [Act.put]
    refine wpAnyIn_take (i := 8) (v := .pointer (some ⟨g, k4 * 2, none⟩)) rfl rfl (by kernel_rfl) (by kernel_rfl) (by kernel_rfl) (fun _ _ _ h => h) ⟨Or.inl ⟨by rfl, ?_⟩, ?_⟩ ?_
    ·intro X
     go_simp
     try with_reducible rfl
    ·intro X
     rfl
    try simp [Act.put]
    refine wpAnyIn_ready (rs := [9]) (by kernel_rfl) (by simp) ?_
    refine AllReadyIn.cons rfl (fun K hK => ?_) AllReadyIn.nil
    have hKK := hK
    clear hK
    go_simp
    refine hKK _ _ ?_
    clear hKK K
    try simp [Act.put]
    refine wpAnyIn_ready (rs := [10]) (by kernel_rfl) (by simp) ?_
    refine AllReadyIn.cons rfl (fun K hK => ?_) AllReadyIn.nil
    have hKK := hK
    clear hK
    go_simp
    refine (unhide HR).mono ?_
    rintro e W8 (⟨rfl, hJ8, hk8⟩ | ⟨rfl, hJx8⟩)
    ·refine hKK _ _ ?_
     clear hKK K
     try simp [Act.put]
     refine wpAnyIn_ready (rs := [11]) (by kernel_rfl) (by simp) ?_
     refine AllReadyIn.cons rfl (fun K hK => ?_) AllReadyIn.nil
     have hKK := hK
     clear hK
     go_simp
     refine hKK _ _ ?_
     clear hKK K
     try simp [Act.put]
     refine wpAnyIn_done (by kernel_rfl) ?_ _
     have B8 := hide ((unhide HB).trans ((Keep.of_below ((Below.refl _ _).drew)).trans hk8))
     have HJ8 := hide hJ8
     clear hJ8 hk8
     gi_wp2
     go_roundw
     case rel => exact ⟨k + 1, by omega, by have := unhide HQ; congr 1; omega, HJ8, B8⟩
     case measure => simp [intOf]
    ·refine hKK _ _ ?_
     clear hKK K
     try simp [Act.put]
     refine wpAnyIn_ready (rs := [11]) (by kernel_rfl) (by simp) ?_
     refine AllReadyIn.cons rfl (fun K hK => ?_) AllReadyIn.nil
     have hKK := hK
     clear hK
     go_simp
     refine hKK _ _ ?_
     clear hKK K
     try simp [Act.put]
     refine wpAnyIn_done (by kernel_rfl) ?_ _
     gi_wp2
     refine bodyPost_ret (results_none rfl _ _ _) rfl ?_
     exact ⟨⟨_, rfl⟩, .inr ⟨_, ⟨k + 1, by omega, rfl⟩, hJx8⟩⟩
   ·skip
    have hKK := hK
    clear hK
    go_simp
    refine hKK _ _ ?_
    clear hKK K
    try simp [Act.put]
    refine wpAnyIn_ready (rs := [2, 5]) (by kernel_rfl) (by simp) ?_
    refine AllReadyIn.cons rfl (fun K hK => ?_) (AllReadyIn.cons rfl (fun K hK => ?_) AllReadyIn.nil)
    ·skip
     have hKK := hK
     clear hK
     go_simp
     refine hKK _ _ ?_
     clear hKK K
     try simp [Act.put]
     refine wpAnyIn_take (i := 6) (v := .pointer (some ⟨g, 0, none⟩)) rfl rfl (by kernel_rfl) (by kernel_rfl) (by kernel_rfl) (fun _ _ _ h => h) ⟨Or.inl ⟨by rfl, ?_⟩, ?_⟩ ?_
     ·intro X
      go_simp
      try with_reducible rfl
     ·intro X
      rfl
     try simp [Act.put]
     refine wpAnyIn_take (i := 7) (v := .pointer (some ⟨g, 0, none⟩)) rfl rfl (by kernel_rfl) (by kernel_rfl) (by kernel_rfl) (fun _ _ _ h => h) ⟨Or.inl ⟨by rfl, ?_⟩, ?_⟩ ?_
     ·intro X
      go_simp
      try with_reducible rfl
     ·intro X
      rfl
     try simp [Act.put]
     refine wpAnyIn_ready (rs := [5]) (by kernel_rfl) (by simp) ?_
     refine AllReadyIn.cons rfl (fun K hK => ?_) AllReadyIn.nil
     have hKK := hK
     clear hK
     go_simp
     refine ⟨trivial, ?_⟩
     refine (callsIn_wide.2 (unhide HSL)).mono ?_
     rintro e w5 ⟨rfl, hw5⟩
     rw [hw5]
     clear hw5
     refine hKK _ _ ?_
     clear hKK K
     try simp [Act.put]
     refine wpAnyIn_take (i := 8) (v := .pointer (some ⟨g, k4 * 2, none⟩)) rfl rfl (by kernel_rfl) (by kernel_rfl) (by kernel_rfl) (fun _ _ _ h => h) ⟨Or.inl ⟨by rfl, ?_⟩, ?_⟩ ?_
     ·intro X
      go_simp
      try with_reducible rfl
     ·intro X
      rfl
     try simp [Act.put]
     refine wpAnyIn_ready (rs := [9]) (by kernel_rfl) (by simp) ?_
     refine AllReadyIn.cons rfl (fun K hK => ?_) AllReadyIn.nil
     have hKK := hK
     clear hK
     go_simp
     refine hKK _ _ ?_
     clear hKK K
     try simp [Act.put]
     refine wpAnyIn_ready (rs := [10]) (by kernel_rfl) (by simp) ?_
     refine AllReadyIn.cons rfl (fun K hK => ?_) AllReadyIn.nil
     have hKK := hK
     clear hK
     go_simp
     refine (unhide HR).mono ?_
     rintro e W8 (⟨rfl, hJ8, hk8⟩ | ⟨rfl, hJx8⟩)
     ·refine hKK _ _ ?_
      clear hKK K
      try simp [Act.put]
      refine wpAnyIn_ready (rs := [11]) (by kernel_rfl) (by simp) ?_
      refine AllReadyIn.cons rfl (fun K hK => ?_) AllReadyIn.nil
      have hKK := hK
      clear hK
      go_simp
      refine hKK _ _ ?_
      clear hKK K
      try simp [Act.put]
      refine wpAnyIn_done (by kernel_rfl) ?_ _
      have B8 := hide ((unhide HB).trans ((Keep.of_below ((Below.refl _ _).drew)).trans hk8))
      have HJ8 := hide hJ8
      clear hJ8 hk8
      gi_wp2
      go_roundw
      case rel => exact ⟨k + 1, by omega, by have := unhide HQ; congr 1; omega, HJ8, B8⟩
      case measure => simp [intOf]
     ·refine hKK _ _ ?_
      clear hKK K
      try simp [Act.put]
      refine wpAnyIn_ready (rs := [11]) (by kernel_rfl) (by simp) ?_
      refine AllReadyIn.cons rfl (fun K hK => ?_) AllReadyIn.nil
      have hKK := hK
      clear hK
      go_simp
      refine hKK _ _ ?_
      clear hKK K
      try simp [Act.put]
      refine wpAnyIn_done (by kernel_rfl) ?_ _
      gi_wp2
      refine bodyPost_ret (results_none rfl _ _ _) rfl ?_
      exact ⟨⟨_, rfl⟩, .inr ⟨_, ⟨k + 1, by omega, rfl⟩, hJx8⟩⟩
    ·skip
     have hKK := hK
     clear hK
     go_simp
     refine ⟨trivial, ?_⟩
     refine (callsIn_wide.2 (unhide HSL)).mono ?_
     rintro e w5 ⟨rfl, hw5⟩
     rw [hw5]
     clear hw5
     refine hKK _ _ ?_
     clear hKK K
     try simp [Act.put]
     refine wpAnyIn_ready (rs := [2]) (by kernel_rfl) (by simp) ?_
     refine AllReadyIn.cons rfl (fun K hK => ?_) AllReadyIn.nil
     have hKK := hK
     clear hK
     go_simp
     refine hKK _ _ ?_
     clear hKK K
     try simp [Act.put]
     refine wpAnyIn_take (i := 6) (v := .pointer (some ⟨g, 0, none⟩)) rfl rfl (by kernel_rfl) (by kernel_rfl) (by kernel_rfl) (fun _ _ _ h => h) ⟨Or.inl ⟨by rfl, ?_⟩, ?_⟩ ?_
     ·intro X
      go_simp
      try with_reducible rfl
     ·intro X
      rfl
     try simp [Act.put]
     refine wpAnyIn_take (i := 7) (v := .pointer (some ⟨g, 0, none⟩)) rfl rfl (by kernel_rfl) (by kernel_rfl) (by kernel_rfl) (fun _ _ _ h => h) ⟨Or.inl ⟨by rfl, ?_⟩, ?_⟩ ?_
     ·intro X
      go_simp
      try with_reducible rfl
     ·intro X
      rfl
     try simp [Act.put]
     refine wpAnyIn_take (i := 8) (v := .pointer (some ⟨g, k4 * 2, none⟩)) rfl rfl (by kernel_rfl) (by kernel_rfl) (by kernel_rfl) (fun _ _ _ h => h) ⟨Or.inl ⟨by rfl, ?_⟩, ?_⟩ ?_
     ·intro X
      go_simp
      try with_reducible rfl
     ·intro X
      rfl
     try simp [Act.put]
     refine wpAnyIn_ready (rs := [9]) (by kernel_rfl) (by simp) ?_
     refine AllReadyIn.cons rfl (fun K hK => ?_) AllReadyIn.nil
     have hKK := hK
     clear hK
     go_simp
     refine hKK _ _ ?_
     clear hKK K
     try simp [Act.put]
     refine wpAnyIn_ready (rs := [10]) (by kernel_rfl) (by simp) ?_
     refine AllReadyIn.cons rfl (fun K hK => ?_) AllReadyIn.nil
     have hKK := hK
     clear hK
     go_simp
     refine (unhide HR).mono ?_
     rintro e W8 (⟨rfl, hJ8, hk8⟩ | ⟨rfl, hJx8⟩)
     ·refine hKK _ _ ?_
      clear hKK K
      try simp [Act.put]
      refine wpAnyIn_ready (rs := [11]) (by kernel_rfl) (by simp) ?_
      refine AllReadyIn.cons rfl (fun K hK => ?_) AllReadyIn.nil
      have hKK := hK
      clear hK
      go_simp
      refine hKK _ _ ?_
      clear hKK K
      try simp [Act.put]
      refine wpAnyIn_done (by kernel_rfl) ?_ _
      have B8 := hide ((unhide HB).trans ((Keep.of_below ((Below.refl _ _).drew)).trans hk8))
      have HJ8 := hide hJ8
      clear hJ8 hk8
      gi_wp2
      go_roundw
      case rel => exact ⟨k + 1, by omega, by have := unhide HQ; congr 1; omega, HJ8, B8⟩
      case measure => simp [intOf]
     ·refine hKK _ _ ?_
      clear hKK K
      try simp [Act.put]
      refine wpAnyIn_ready (rs := [11]) (by kernel_rfl) (by simp) ?_
      refine AllReadyIn.cons rfl (fun K hK => ?_) AllReadyIn.nil
      have hKK := hK
      clear hK
      go_simp
      refine hKK _ _ ?_
      clear hKK K
      try simp [Act.put]
      refine wpAnyIn_done (by kernel_rfl) ?_ _
      gi_wp2
      refine bodyPost_ret (results_none rfl _ _ _) rfl ?_
      exact ⟨⟨_, rfl⟩, .inr ⟨_, ⟨k + 1, by omega, rfl⟩, hJx8⟩⟩
  ·obtain rfl : k = xs.length := by omega
   have hneg : (xs.length : Int) - 1 - xs.length = -1 := by omega
   rw [hneg]
   gi_wp2
   go_end0
   exact ⟨⟨_, rfl⟩, .inl ⟨_, rfl, unhide HJs⟩⟩
/-- one of those that it hands out -/
def RIt (xs : List RawI) : Type := { x : Nat × RawI // x ∈ lastL xs xs.length }
theorem RIt.at {xs : List RawI} (x : RIt xs) : ∃ h : x.1.1 < xs.length, xs[x.1.1] = x.1.2 := by
 have h := x.2
 simp only [lastL, List.mem_map, List.mem_range] at h
 obtain ⟨k, hk, e⟩ := h
 have h1 : xs.length - 1 - k < xs.length := by omega
 rw [List.getElem?_eq_getElem h1] at e
 rw [← e]
 exact ⟨h1, rfl⟩
set_option maxHeartbeats 1000000 in
theorem ringSeq_in (n g : Nat) (w : World) :
  CallsIn Fence.wide n Tryz.prog 109 #[.pointer (some ⟨g, 0, none⟩)] w fun e w' => e = .returned (.func (.func 122) #[] #[.pointer (some ⟨w.heap.size, 0, none⟩)]) ∧ w' = w.alloc (.cells #[.pointer (some ⟨g, 0, none⟩)] 187) := by
 refine callsIn_of_wp Tryz.func109 rfl trivial ?_ rfl
 simp only [Tryz.ntmps109, List.size_toArray, List.length_cons, List.length_nil, Nat.reduceAdd, Nat.reduceSub, Array.replicate_succ, Array.replicate_zero, List.push_toArray, List.append_toArray, List.nil_append, List.cons_append]
 gi_wp2
 go_ret
 exact ⟨rfl, rfl⟩
theorem abidesB {α : Type} {B : Nat} {J : List α → World → Prop} (h : AbidesFrom B J) : ∀ pre X Y, J pre X → Below X.heap.size X Y → J pre Y :=
 fun pre X Y hJ hb => h pre X Y none hJ ⟨hb.os, hb.tape, hb.output, hb.size, fun k hk _ => hb.block k hk⟩ (fun r e => by cases e)
/-- it hands back a value that stops: all of them, from the last on; or the first k of these -/
theorem last_stops (n : Nat) (hn : 1 ≤ n) (Br n₀ g st : Nat) (xs : List RawI) (S : List Nat) (hg : g < n₀) (hBn : Br < n₀) (hSg : g ∉ S) (hSb : Br ∉ S) (w : World) (hn₀ : n₀ ≤ w.heap.size)
  (hBr : w.cell? ⟨Br, 0, none⟩ = some (.pointer (some ⟨g, 0, none⟩))) (hr : RingAt w g st xs) :
  SeqStopsK Fence.wide n Tryz.prog 122 #[.pointer (some ⟨Br, 0, none⟩)] (fun x : RIt xs => encI x.1) (Keep n₀ S) (fun ys => ys.map (fun x : RIt xs => x.1) = lastL xs xs.length)
   (fun pre => ∃ k, k ≤ xs.length ∧ pre.map (fun x : RIt xs => x.1) = lastL xs k) xs.length w := fun l J Jx W hW hJ _ hY h0 => by
 have hW' := hW.mono hn₀
 refine (last1_in n hn l Br n₀ g st xs S hg hBn hSg hSb (fun pre W => ∃ ps : List (RIt xs), ps.map (fun x : RIt xs => x.1) = pre ∧ J ps W) (fun pre W => ∃ ps : List (RIt xs), ps.map (fun x : RIt xs => x.1) = pre ∧ Jx ps W) ?_ ?_ W ((hW'.cell (p := ⟨Br, 0, none⟩) hBn).trans hBr) (hr.of_cells hW.size fun i => hW'.cell (p := ⟨g, i, none⟩) hg) ⟨[], rfl, h0⟩).mono ?_
 ·rintro pre X Y ⟨ps, h1, h2⟩ hb
  exact ⟨ps, h1, abidesB hJ ps X Y h2 hb⟩
 ·rintro pre x W1 hx ⟨ps, rfl, h2⟩ hlen
  obtain ⟨fn, tmps, assign, body, hy, hR⟩ := hY ps ⟨x, hx⟩ W1 h2 (by simpa using hlen)
  refine ⟨fn, tmps, assign, body, hy, hR.mono ?_⟩
  rintro e W2 (⟨h3, h4, h5⟩ | ⟨h3, h4⟩)
  ·exact .inl ⟨h3, ⟨ps ++ [⟨x, hx⟩], by rw [List.map_append]; rfl, h4⟩, h5⟩
  ·exact .inr ⟨h3, ps ++ [⟨x, hx⟩], by rw [List.map_append]; rfl, h4⟩
 ·rintro e W2 ⟨h1, (⟨ys, h2, ps, h3, h4⟩ | ⟨pre, ⟨k, hk, h2⟩, ps, h3, h4⟩)⟩
  ·exact ⟨h1, .inl ⟨ps, h3.trans h2, h4⟩⟩
  ·exact ⟨h1, .inr ⟨ps, ⟨k, hk, h3.trans h2⟩, h4⟩⟩
/-- an item in a box of its own -/
def BoxI (W : World) (B : Nat) (x : RawI) : Prop := W.heap[B]? = some (.cells #[.int .i64 x.z, .slice x.a x.n x.c] 44 (0, 0))
theorem boxI_cells {W : World} {B : Nat} {x : RawI} (h : BoxI W B x) : W.cell? ⟨B, 0, none⟩ = some (.int .i64 x.z) ∧ W.cell? ⟨B, 1, none⟩ = some (.slice x.a x.n x.c) := by
 constructor <;> simp [World.cell?, show W.heap[B]? = _ from h]
theorem boxI_frozen {W : World} {B : Nat} {x : RawI} (h : BoxI W B x) (i : Nat) : W.frozen? ⟨B, i, none⟩ = false := by simp [World.frozen?, show W.heap[B]? = _ from h]
theorem boxI_lt {W : World} {B : Nat} {x : RawI} (h : BoxI W B x) : B < W.heap.size := (Array.getElem?_eq_some_iff.1 h).1
theorem boxI_own (B : Nat) (x : RawI) : Own (fun (_ : Unit) W => BoxI W B x) := fun s X Y row hs hg hrow =>
 (hg.block B (Array.getElem?_eq_some_iff.1 hs).1 (fun e' => by obtain ⟨o, ho, hc⟩ := hrow B e'.symm; rw [show X.heap[B]? = _ from hs] at ho; cases ho; cases hc)).trans hs
theorem boxI_new (W : World) (x : RawI) : BoxI (W.alloc (.cells #[.int .i64 x.z, .slice x.a x.n x.c] 44)) W.heap.size x := heap_alloc_new W _
theorem boxI_alloc {W : World} {B : Nat} {x : RawI} (h : BoxI W B x) (o : Obj) : BoxI (W.alloc o) B x := (Below.heap_alloc _ _ _ (boxI_lt h)).trans h
theorem boxI_up {W W' : World} {B : Nat} {x : RawI} (h : BoxI W B x) (hb : Below W.heap.size W W') : BoxI W' B x := (hb.block B (boxI_lt h)).trans h
end Go.Proofs.YtknkdbfgfcgkiaaGreatDoor
