/-
  The specification's drawing of a tree: whatever the bytes are, it ends, and hands back a list of nodes in new memory, not too long, with short names.
-/
import Derived.Test.YtjfebnplffpmoaaGreatDoorMerged24
namespace Go.Proofs.YtjfebnplffpmoaaGreatDoor
open Go.RowKit Go.Maps Go.Deep

/-- so many nodes at the most -/
def nN : Nat → Nat
  | 0 => 1
  | d + 1 => 3 * nN d + 1
theorem nN_pos (d : Nat) : 1 ≤ nN d := by cases d <;> simp [nN]
theorem nN_le (d : Nat) (h : d ≤ 8) : nN d ≤ 9841 := by
  match d, h with
  | 0, _ | 1, _ | 2, _ | 3, _ | 4, _ | 5, _ | 6, _ | 7, _ | 8, _ => decide
  | n + 9, h => exact absurd h (by omega)
/-- writes into a block that was not there at first -/
theorem Turn.fresh {S S' : List Nat} {a b c : World} (h : Turn S a b) (k : Turn S' b c) (hS : ∀ x ∈ S', a.heap.size ≤ x) : Turn S a c :=
  ⟨k.os.trans h.os, k.tape.trans h.tape, k.output.trans h.output, Nat.le_trans h.size k.size,
    fun i hi hm => (k.block i (Nat.lt_of_lt_of_le hi h.size) (fun e => by have := hS i e; omega)).trans (h.block i hi hm)⟩

/-- the reader and the count of nodes that are left, behind a call -/
def DrewOk (base g gl p : Nat) (L : Int) (K : Nat) (w w' : World) : Prop :=
  ∃ (q : Nat) (L' : Int), p ≤ q ∧ q ≤ p + 6 * K ∧ RdIn base w' g q ∧ L - K ≤ L' ∧ L' ≤ L ∧ w'.cell? ⟨gl, 0, none⟩ = some (.int .i64 L') ∧ w'.frozen? ⟨gl, 0, none⟩ = false ∧ Turn [g, gl] w w'
def TreeSaid (d : Nat) : Prop := ∀ (w : World) (base g gl p : Nat) (L : Int), RdIn base w g p → p + 6 * nN d ≤ 200000000000 → gl ≠ g → base ≤ gl → gl < w.heap.size → w.cell? ⟨gl, 0, none⟩ = some (.int .i64 L) → w.frozen? ⟨gl, 0, none⟩ = false → -1000000000 ≤ L - nN d → L ≤ 1000000000 →
  Calls Tryz.prog 34 #[.pointer (some ⟨g, 0, none⟩), .int .i64 (d : Int), .slice (some ⟨gl, 0, none⟩) 1 1] w fun e w' => RetNodes w.heap.size (nN d) e w' ∧ DrewOk base g gl p L (nN d) w w'

theorem RdIn.left {base : Nat} {w : World} {g p gl : Nat} (h : RdIn base w g p) (hgl : gl ≠ g) (hb : base ≤ gl) (v : Value) : RdIn base (w.setCell ⟨gl, 0, none⟩ v) g p :=
  h.turn ((Turn.refl [gl] w).setCell (by simp) 0 v) (by simp; exact fun e => hgl e.symm) (by simp; exact hb)

theorem leaf_end (w w2 : World) (base g gl p q : Nat) (L : Int) (K : Nat) (x : NodeV) (hK : 1 ≤ K) (hpq : p ≤ q) (hq : q ≤ p + 6 * K) (hr : RdIn base w2 g q) (hsz : w.heap.size ≤ w2.heap.size) (hgl : gl < w2.heap.size)
    (hc : w2.cell? ⟨gl, 0, none⟩ = some (.int .i64 (L - 1))) (hf : w2.frozen? ⟨gl, 0, none⟩ = false) (ht : Turn [g, gl] w w2) (hx : x.name.size ≤ 16) :
    RetNodes w.heap.size K (.returned (.slice (some ⟨w2.heap.size, 0, none⟩) 1 1)) (w2.alloc (.cells #[.int .i64 x.kind, .int .i64 x.num, .string x.name, .int .i64 x.kids] 49)) ∧ DrewOk base g gl p L K w (w2.alloc (.cells #[.int .i64 x.kind, .int .i64 x.num, .string x.name, .int .i64 x.kids] 49)) := by
  have hT : Turn [] w2 (w2.alloc (.cells #[.int .i64 x.kind, .int .i64 x.num, .string x.name, .int .i64 x.kids] 49)) := (Turn.refl _ _).alloc _
  refine ⟨⟨w2.heap.size, 1, [x], rfl, NodeRow.lit w2 [x] hsz (by simp), by simp, by simpa using hK, ?_⟩, q, L - 1, hpq, hq, hr.turn hT (by simp) (by simp), by omega, by omega, (hT.cell hgl (by simp)).trans hc, (hT.frozen hgl (by simp)).trans hf, ht.trans (hT.mono (by simp))⟩
  intro n hn
  simp at hn
  subst hn
  exact hx

theorem arity_draw (v : Int) (h0 : 0 ≤ v) (h1 : v < 21) : 1 ≤ arity (3 + v) ∧ arity (3 + v) ≤ 3 := by
  unfold arity
  repeat' split
  all_goals omega

set_option maxHeartbeats 3200000 in
theorem tree_leaf (d : Nat) (hd : d ≤ 1) : TreeSaid d := by
  intro w base g gl p L hr hp hne hbl hgl hcl hfl hL0 hL1
  have hNd := nN_pos d
  have hg := hr.lt
  have hd' : (d : Int) ≤ 1 := by omega
  have HRc := hide (hr.left hne hbl (.int .i64 (L - 1)))
  have hclc : (w.setCell ⟨gl, 0, none⟩ (.int .i64 (L - 1))).cell? ⟨gl, 0, none⟩ = some (.int .i64 (L - 1)) := World.cell?_setCell_same _ _ _ hcl
  have hflc : (w.setCell ⟨gl, 0, none⟩ (.int .i64 (L - 1))).frozen? ⟨gl, 0, none⟩ = false := by rw [World.frozen?_setCell]; exact hfl
  have HTc := hide ((Turn.refl [g, gl] w).setCell (show gl ∈ [g, gl] by simp) 0 (.int .i64 (L - 1)))
  have hglc : gl < (w.setCell ⟨gl, 0, none⟩ (.int .i64 (L - 1))).heap.size := by simpa using hgl
  have hszc : w.heap.size ≤ (w.setCell ⟨gl, 0, none⟩ (.int .i64 (L - 1))).heap.size := by simp
  clear hr
  go_enter Tryz.func34, Tryz.ntmps34
  go_wp2_with fail
  refine (pick_any _ base g p 2 (by omega) (by omega) (by omega) (unhide HRc)).mono ?_
  rintro e w1 ⟨v, rfl, hv0, hv2, hr1, ht1⟩
  have hs1 := ht1.size
  have hcl2 := (ht1.cell (i := 0) (show gl < _ by simpa using hglc) (show gl ∉ [g] by simpa using hne)).trans hclc
  have hfl2 := (ht1.frozen (i := 0) (show gl < _ by simpa using hglc) (show gl ∉ [g] by simpa using hne)).trans hflc
  have HT1 := hide ((unhide HTc).trans (ht1.mono (by simp)))
  have HR1 := hide hr1
  clear hr1 ht1
  by_cases hz : v = 0
  · have hz' : (v == 0) = true := by simp [hz]
    clear hz
    go_wp2_with fail
    refine (l31Num_any _ base g (p + 1) (by omega) (unhide HR1)).mono ?_
    rintro e w2 ⟨u, q, rfl, hq1, hq2, hr2, ht2⟩
    have HX := hide (leaf_end w w2 base g gl p q L (nN d) ⟨1, u, ByteArray.empty, 0⟩ (nN_pos d) (by omega) (by have := nN_pos d; omega) hr2 (Nat.le_trans (Nat.le_trans hszc hs1) ht2.size) (by have := ht2.size; (try simp at hglc); omega) ((ht2.cell (i := 0) (by (try simp at hglc); omega) (show gl ∉ [g] by simpa using hne)).trans hcl2) ((ht2.frozen (i := 0) (by (try simp at hglc); omega) (show gl ∉ [g] by simpa using hne)).trans hfl2) ((unhide HT1).trans (ht2.mono (by simp))) (show ByteArray.empty.size ≤ 16 by decide))
    clear hr2 ht2
    go_wp2_with fail
    go_ret
    exact unhide HX
  · have hz' : (v == 0) = false := by simp [hz]
    clear hz
    go_wp2_with fail
    refine (l31Name_any _ base g (p + 1) (by omega) (unhide HR1)).mono ?_
    rintro e w2 ⟨s, rfl, hsn, hr2, ht2⟩
    have HX := hide (leaf_end w w2 base g gl p (p + 1 + 1) L (nN d) ⟨2, 0, s, 0⟩ (nN_pos d) (by omega) (by have := nN_pos d; omega) hr2 (Nat.le_trans (Nat.le_trans hszc hs1) ht2.size) (by have := ht2.size; (try simp at hglc); omega) ((ht2.cell (i := 0) (by (try simp at hglc); omega) (show gl ∉ [g] by simpa using hne)).trans hcl2) ((ht2.frozen (i := 0) (by (try simp at hglc); omega) (show gl ∉ [g] by simpa using hne)).trans hfl2) ((unhide HT1).trans (ht2.mono (by simp))) hsn)
    clear hr2 ht2
    go_wp2_with fail
    go_ret
    exact unhide HX

set_option maxHeartbeats 12800000 in
theorem tree_node (d : Nat) (hd1 : 1 ≤ d) (hd8 : d ≤ 8) (ih : TreeSaid d) : TreeSaid (d + 1) := by
  intro w base g gl p L hr hp hne hbl hgl hcl hfl hL0 hL1
  have IH := hide ih
  clear ih
  have hNd := nN_pos (d + 1)
  have hNd0 := nN_le d hd8
  have hg := hr.lt
  have hd' : ¬ ((d + 1 : Nat) : Int) ≤ 1 := by omega
  have HRc := hide (hr.left hne hbl (.int .i64 (L - 1)))
  have hclc : (w.setCell ⟨gl, 0, none⟩ (.int .i64 (L - 1))).cell? ⟨gl, 0, none⟩ = some (.int .i64 (L - 1)) := World.cell?_setCell_same _ _ _ hcl
  have hflc : (w.setCell ⟨gl, 0, none⟩ (.int .i64 (L - 1))).frozen? ⟨gl, 0, none⟩ = false := by rw [World.frozen?_setCell]; exact hfl
  have HTc := hide ((Turn.refl [g, gl] w).setCell (show gl ∈ [g, gl] by simp) 0 (.int .i64 (L - 1)))
  have hglc : gl < (w.setCell ⟨gl, 0, none⟩ (.int .i64 (L - 1))).heap.size := by simpa using hgl
  have hszc : w.heap.size ≤ (w.setCell ⟨gl, 0, none⟩ (.int .i64 (L - 1))).heap.size := by simp
  clear hr
  by_cases hL : L - 1 ≤ 0
  · go_enter Tryz.func34, Tryz.ntmps34
    go_wp2_with fail
    refine (pick_any _ base g p 2 (by omega) (by omega) (by omega) (unhide HRc)).mono ?_
    rintro e w1 ⟨v, rfl, hv0, hv2, hr1, ht1⟩
    have hs1 := ht1.size
    have hcl2 := (ht1.cell (i := 0) (show gl < _ by simpa using hglc) (show gl ∉ [g] by simpa using hne)).trans hclc
    have hfl2 := (ht1.frozen (i := 0) (show gl < _ by simpa using hglc) (show gl ∉ [g] by simpa using hne)).trans hflc
    have HT1 := hide ((unhide HTc).trans (ht1.mono (by simp)))
    have HR1 := hide hr1
    clear hr1 ht1
    by_cases hz : v = 0
    · have hz' : (v == 0) = true := by simp [hz]
      clear hz
      go_wp2_with fail
      refine (l31Num_any _ base g (p + 1) (by omega) (unhide HR1)).mono ?_
      rintro e w2 ⟨u, q, rfl, hq1, hq2, hr2, ht2⟩
      have HX := hide (leaf_end w w2 base g gl p q L (nN (d + 1)) ⟨1, u, ByteArray.empty, 0⟩ (nN_pos (d + 1)) (by omega) (by have := nN_pos (d + 1); omega) hr2 (Nat.le_trans (Nat.le_trans hszc hs1) ht2.size) (by have := ht2.size; (try simp at hglc); omega) ((ht2.cell (i := 0) (by (try simp at hglc); omega) (show gl ∉ [g] by simpa using hne)).trans hcl2) ((ht2.frozen (i := 0) (by (try simp at hglc); omega) (show gl ∉ [g] by simpa using hne)).trans hfl2) ((unhide HT1).trans (ht2.mono (by simp))) (show ByteArray.empty.size ≤ 16 by decide))
      clear hr2 ht2
      go_wp2_with fail
      go_ret
      exact unhide HX
    · have hz' : (v == 0) = false := by simp [hz]
      clear hz
      go_wp2_with fail
      refine (l31Name_any _ base g (p + 1) (by omega) (unhide HR1)).mono ?_
      rintro e w2 ⟨s, rfl, hsn, hr2, ht2⟩
      have HX := hide (leaf_end w w2 base g gl p (p + 1 + 1) L (nN (d + 1)) ⟨2, 0, s, 0⟩ (nN_pos (d + 1)) (by omega) (by have := nN_pos (d + 1); omega) hr2 (Nat.le_trans (Nat.le_trans hszc hs1) ht2.size) (by have := ht2.size; (try simp at hglc); omega) ((ht2.cell (i := 0) (by (try simp at hglc); omega) (show gl ∉ [g] by simpa using hne)).trans hcl2) ((ht2.frozen (i := 0) (by (try simp at hglc); omega) (show gl ∉ [g] by simpa using hne)).trans hfl2) ((unhide HT1).trans (ht2.mono (by simp))) hsn)
      clear hr2 ht2
      go_wp2_with fail
      go_ret
      exact unhide HX
  · go_enter Tryz.func34, Tryz.ntmps34
    go_wp2_with fail
    refine (pick_any _ base g p 5 (by omega) (by omega) (by omega) (unhide HRc)).mono ?_
    rintro e w5 ⟨v5, rfl, hv50, hv55, hr5, ht5⟩
    have hs5 := ht5.size
    replace hclc := (ht5.cell (i := 0) (show gl < _ by simpa using hglc) (show gl ∉ [g] by simpa using hne)).trans hclc
    replace hflc := (ht5.frozen (i := 0) (show gl < _ by simpa using hglc) (show gl ∉ [g] by simpa using hne)).trans hflc
    replace HTc := hide ((unhide HTc).trans (ht5.mono (by simp)))
    replace HRc := hide hr5
    replace hglc : gl < w5.heap.size := Nat.lt_of_lt_of_le hglc hs5
    replace hszc : w.heap.size ≤ w5.heap.size := Nat.le_trans hszc hs5
    clear hr5 ht5 hs5
    by_cases hz5 : v5 = 0
    · have hz5' : (v5 == 0) = true := by simp [hz5]
      clear hz5
      go_wp2_with fail
      refine (pick_any _ base g (p + 1) 2 (by omega) (by omega) (by omega) (unhide HRc)).mono ?_
      rintro e w1 ⟨v, rfl, hv0, hv2, hr1, ht1⟩
      have hs1 := ht1.size
      have hcl2 := (ht1.cell (i := 0) (show gl < _ by simpa using hglc) (show gl ∉ [g] by simpa using hne)).trans hclc
      have hfl2 := (ht1.frozen (i := 0) (show gl < _ by simpa using hglc) (show gl ∉ [g] by simpa using hne)).trans hflc
      have HT1 := hide ((unhide HTc).trans (ht1.mono (by simp)))
      have HR1 := hide hr1
      clear hr1 ht1
      by_cases hz : v = 0
      · have hz' : (v == 0) = true := by simp [hz]
        clear hz
        go_wp2_with fail
        refine (l31Num_any _ base g ((p + 1) + 1) (by omega) (unhide HR1)).mono ?_
        rintro e w2 ⟨u, q, rfl, hq1, hq2, hr2, ht2⟩
        have HX := hide (leaf_end w w2 base g gl p q L (nN (d + 1)) ⟨1, u, ByteArray.empty, 0⟩ (nN_pos (d + 1)) (by omega) (by have := nN_pos (d + 1); omega) hr2 (Nat.le_trans (Nat.le_trans hszc hs1) ht2.size) (by have := ht2.size; (try simp at hglc); omega) ((ht2.cell (i := 0) (by (try simp at hglc); omega) (show gl ∉ [g] by simpa using hne)).trans hcl2) ((ht2.frozen (i := 0) (by (try simp at hglc); omega) (show gl ∉ [g] by simpa using hne)).trans hfl2) ((unhide HT1).trans (ht2.mono (by simp))) (show ByteArray.empty.size ≤ 16 by decide))
        clear hr2 ht2
        go_wp2_with fail
        go_ret
        exact unhide HX
      · have hz' : (v == 0) = false := by simp [hz]
        clear hz
        go_wp2_with fail
        refine (l31Name_any _ base g ((p + 1) + 1) (by omega) (unhide HR1)).mono ?_
        rintro e w2 ⟨s, rfl, hsn, hr2, ht2⟩
        have HX := hide (leaf_end w w2 base g gl p ((p + 1) + 1 + 1) L (nN (d + 1)) ⟨2, 0, s, 0⟩ (nN_pos (d + 1)) (by omega) (by have := nN_pos (d + 1); omega) hr2 (Nat.le_trans (Nat.le_trans hszc hs1) ht2.size) (by have := ht2.size; (try simp at hglc); omega) ((ht2.cell (i := 0) (by (try simp at hglc); omega) (show gl ∉ [g] by simpa using hne)).trans hcl2) ((ht2.frozen (i := 0) (by (try simp at hglc); omega) (show gl ∉ [g] by simpa using hne)).trans hfl2) ((unhide HT1).trans (ht2.mono (by simp))) hsn)
        clear hr2 ht2
        go_wp2_with fail
        go_ret
        exact unhide HX
    · have hz5' : (v5 == 0) = false := by simp [hz5]
      clear hz5
      go_wp2_with fail
      refine (pick_any _ base g (p + 1) 21 (by omega) (by omega) (by omega) (unhide HRc)).mono ?_
      rintro e w6 ⟨v6, rfl, hv60, hv61, hr6, ht6⟩
      have hs6 := ht6.size
      replace hclc := (ht6.cell (i := 0) (show gl < _ by simpa using hglc) (show gl ∉ [g] by simpa using hne)).trans hclc
      replace hflc := (ht6.frozen (i := 0) (show gl < _ by simpa using hglc) (show gl ∉ [g] by simpa using hne)).trans hflc
      replace HTc := hide ((unhide HTc).trans (ht6.mono (by simp)))
      replace HRc := hide hr6
      replace hglc : gl < w6.heap.size := Nat.lt_of_lt_of_le hglc hs6
      replace hszc : w.heap.size ≤ w6.heap.size := Nat.le_trans hszc hs6
      clear hr6 ht6 hs6
      obtain ⟨ha1, ha3⟩ := arity_draw v6 hv60 hv61
      go_wp2_with fail
      refine (l2Arity_any _ _).mono ?_
      rintro e w7 ⟨rfl, rfl⟩
      generalize hkk : (3 : Int) + v6 = kk at *
      obtain ⟨c, hcc⟩ := Int.eq_ofNat_of_zero_le (show 0 ≤ arity kk by omega)
      rw [hcc] at ha1 ha3 ⊢
      clear hkk hcc hv60 hv61
      by_cases hk : kk = 22
      · skip
        subst hk
        have HA0 := hide (show Turn [] w7 (w7.alloc (.cells #[.int .i64 22, .int .i64 0, .string ⟨#[]⟩, .int .i64 c] 49)) from (Turn.refl _ _).alloc _)
        have HR8 := hide ((unhide HRc).turn (unhide HA0) (by simp) (by simp))
        go_wp2_with fail
        refine (l31Name_any _ base g (p + 1 + 1) (by omega) (unhide HR8)).mono ?_
        rintro e w8 ⟨s8, rfl, hnm, hr8, ht8⟩
        have hs8 := ht8.size
        have hg7 := (unhide HRc).lt
        have hb7 := (unhide HRc).above
        have hnb8 : w7.heap.size < w8.heap.size := by simp at hs8; omega
        have q0 : w8.cell? ⟨w7.heap.size, 0, none⟩ = some (.int .i64 22) := (ht8.cell (by simp) (by simp; omega)).trans (World.cell?_alloc_at _ _ _ _ rfl)
        have q1 : w8.cell? ⟨w7.heap.size, 1, none⟩ = some (.int .i64 0) := (ht8.cell (by simp) (by simp; omega)).trans (World.cell?_alloc_at _ _ _ _ rfl)
        have q2 : w8.cell? ⟨w7.heap.size, 2, none⟩ = some (.string ⟨#[]⟩) := (ht8.cell (by simp) (by simp; omega)).trans (World.cell?_alloc_at _ _ _ _ rfl)
        have q3 : w8.cell? ⟨w7.heap.size, 3, none⟩ = some (.int .i64 c) := (ht8.cell (by simp) (by simp; omega)).trans (World.cell?_alloc_at _ _ _ _ rfl)
        have qf : w8.frozen? ⟨w7.heap.size, 2, none⟩ = false := (ht8.frozen (by simp) (by simp; omega)).trans (World.frozen?_alloc_at _ _ _ _ rfl)
        have hsc : Turn [w7.heap.size] w8 (w8.setCell ⟨w7.heap.size, 2, none⟩ (.string s8)) := (Turn.refl _ _).setCell (by simp) _ _
        have r0 : (w8.setCell ⟨w7.heap.size, 2, none⟩ (.string s8)).cell? ⟨w7.heap.size, 0, none⟩ = some (.int .i64 22) := by rw [World.cell?_setCell_other _ _ _ _ (by simp)]; exact q0
        have r1 : (w8.setCell ⟨w7.heap.size, 2, none⟩ (.string s8)).cell? ⟨w7.heap.size, 1, none⟩ = some (.int .i64 0) := by rw [World.cell?_setCell_other _ _ _ _ (by simp)]; exact q1
        have r2 : (w8.setCell ⟨w7.heap.size, 2, none⟩ (.string s8)).cell? ⟨w7.heap.size, 2, none⟩ = some (.string s8) := World.cell?_setCell_same _ _ _ q2
        have hk3 : (w8.setCell ⟨w7.heap.size, 2, none⟩ (.string s8)).cell? ⟨w7.heap.size, 3, none⟩ = some (.int .i64 c) := by rw [World.cell?_setCell_other _ _ _ _ (by simp)]; exact q3
        have HRn := hide (hr8.turn hsc (by simp; omega) (by simp; omega))
        have HTn := hide (((((unhide HTc).trans ((unhide HA0).mono (by simp))).trans (ht8.mono (by simp)))).fresh hsc (by simp; omega))
        have hgln : gl < (w8.setCell ⟨w7.heap.size, 2, none⟩ (.string s8)).heap.size := by simp; omega
        have hcln := ((hsc.cell (i := 0) (show gl < w8.heap.size by omega) (by simp; omega)).trans (ht8.cell (i := 0) (by simp; omega) (by simpa using hne))).trans (((unhide HA0).cell (i := 0) hglc (by simp)).trans hclc)
        have hfln := ((hsc.frozen (i := 0) (show gl < w8.heap.size by omega) (by simp; omega)).trans (ht8.frozen (i := 0) (by simp; omega) (by simpa using hne))).trans (((unhide HA0).frozen (i := 0) hglc (by simp)).trans hflc)
        have hnbn : w7.heap.size < (w8.setCell ⟨w7.heap.size, 2, none⟩ (.string s8)).heap.size := by simpa using hnb8
        clear hr8 ht8 hsc q0 q1 q3
        have hbn : w.heap.size ≤ w7.heap.size := hszc
        have HNR := hide (NodeRow.lit' (B := w7.heap.size + 1) w8.heap.size (w8.setCell ⟨w7.heap.size, 2, none⟩ (.string s8)) [⟨22, 0, s8, c⟩] (by simp) (by simp; omega) (by simp))
        have HTA := hide (show Turn [] (w8.setCell ⟨w7.heap.size, 2, none⟩ (.string s8)) ((w8.setCell ⟨w7.heap.size, 2, none⟩ (.string s8)).alloc (.cells #[.int .i64 22, .int .i64 0, .string s8, .int .i64 c] 49)) from (Turn.refl _ _).alloc _)
        have HR9 := hide ((unhide HRn).turn (unhide HTA) (by simp) (by simp))
        have hcl9 := ((unhide HTA).cell (i := 0) hgln (by simp)).trans hcln
        have hfl9 := ((unhide HTA).frozen (i := 0) hgln (by simp)).trans hfln
        have hk9 := ((unhide HTA).cell (i := 3) hnbn (by simp)).trans hk3
        have HT9 := hide ((unhide HTn).trans ((unhide HTA).mono (by simp)))
        have hnb9 : w7.heap.size < ((w8.setCell ⟨w7.heap.size, 2, none⟩ (.string s8)).alloc (.cells #[.int .i64 22, .int .i64 0, .string s8, .int .i64 c] 49)).heap.size := Nat.lt_of_lt_of_le hnbn (unhide HTA).size
        have HNAM := hide hnm
        clear hnm
        go_wp2_with fail
        obtain ⟨i0, hi, hz0, hz1, hz2⟩ := info_parts infoNode4
        go_loopw [9, 10] (fun o i wr => ∃ (j J k cap q : Nat) (L' : Int) (ns : List NodeV), j ≤ c ∧ i = .int .i64 j ∧ o = .slice (some ⟨k, 0, none⟩) ns.length cap ∧ Hid (J = j * nN d) ∧ Hid (NodeRow (w7.heap.size + 1) wr k cap ns ∧ ShortNames ns ∧ RdIn base wr g q ∧ Turn [g, gl] w wr) ∧ 1 ≤ ns.length ∧ ns.length ≤ 1 + J ∧ p ≤ q ∧ q ≤ p + 5 + 6 * J ∧ L - 1 - J ≤ L' ∧ L' ≤ L - 1 ∧ wr.cell? ⟨gl, 0, none⟩ = some (.int .i64 L') ∧ wr.frozen? ⟨gl, 0, none⟩ = false ∧ wr.cell? ⟨w7.heap.size, 3, none⟩ = some (.int .i64 c) ∧ w7.heap.size < wr.heap.size) (fun _ i _ => c - (intOf i).toNat)
        case atStart =>
          refine ⟨0, 0, _, _, (p + 1 + 1 + 1), L - 1, [⟨22, 0, s8, c⟩], Nat.zero_le _, rfl, rfl, (Nat.zero_mul _).symm, ⟨unhide HNR, ?_, unhide HR9, unhide HT9⟩, by simp, by simp, by omega, by omega, by omega, by omega, hcl9, hfl9, hk9, hnb9⟩
          intro n hn
          simp at hn
          subst hn
          exact unhide HNAM
        case round =>
          obtain ⟨j, J, k, cap, q, L', ns, hj, rfl, rfl, hJ, HP, hn1, hnJ, hq0, hq1, hl0, hl1, hcr, hfr, hkr, hnr⟩ := hrel
          clear hcl9 hfl9 hk9 hnb9 hcln hfln hk3 hgln hnbn
          have hN := nN_le d hd8
          have hNp := nN_pos d
          have hJ3 : J ≤ 3 * nN d := by rw [unhide hJ]; exact Nat.mul_le_mul_right _ (by omega)
          by_cases hlt : (j : Int) < (c : Int)
          · have hkB := (unhide HP).1.block
            have hglr : gl < wr.heap.size := Nat.lt_of_lt_of_le hgl (unhide HP).2.2.2.size
            have hJ2 : J ≤ 2 * nN d := by rw [unhide hJ]; exact Nat.mul_le_mul_right _ (by omega)
            have hp2 : q + 6 * nN d ≤ 200000000000 := by simp only [nN] at hp; omega
            have hl2 : -1000000000 ≤ L' - nN d := by simp only [nN] at hL0; omega
            have HC := hide (unhide IH wr base g gl q L' (unhide HP).2.2.1 hp2 hne hbl hglr hcr hfr hl2 (by omega))
            go_wp2_with fail
            refine (unhide HC).mono ?_
            rintro e w2 ⟨⟨k2, cap2, ms, rfl, hrow2, hm1, hmK, hsn2⟩, q2, L2, hq20, hq21, hr2, hl20, hl21, hc2, hf2, ht2⟩
            have hs2 := ht2.size
            have hkg : k ≠ g ∧ k ≠ gl := by have := (unhide HP).2.2.1.lt; have := (unhide HP).2.2.2.size; omega
            have hrowk := (unhide HP).1.turn ht2 (by simp; exact hkg)
            have hkr2 := (ht2.cell (i := 3) hnr (by simp; omega)).trans hkr
            have hnews := hrow2.news
            have HR2 := hide hr2
            have HT2 := hide ((unhide HP).2.2.2.trans ht2)
            have HSN := hide (And.intro (unhide HP).2.1 hsn2)
            have hgl2 : gl < w2.heap.size := Nat.lt_of_lt_of_le hglr hs2
            have hnr2 : w7.heap.size < w2.heap.size := Nat.lt_of_lt_of_le hnr hs2
            have hg2 := (unhide HR2).lt
            have hgb2 := (unhide HR2).above
            clear hr2 ht2 hsn2 HC HP
            go_wp2_with (first
              | (at_builtin; refine wpList_append_own _ rfl _ _ 31 rfl (w7.heap.size + 1) 49 i0 _ 4 40 Tryz.underlying31 hi hz0 hz1 hz2 rfl (by decide) (.slice (some ⟨k, 0, none⟩) ns.length cap) ns.length (cellsL ns) rfl hrowk ⟨k2, 0, none⟩ ms.length cap2 (cellsL ms) rfl (cellsL_len ms) hnews (cellsL_one ms) (by unfold maxLen; omega) (by omega) (by omega) ?_; intro v3 w3 hown3 hgrow3 _))
            obtain ⟨k3, cap3, rfl, hrow3⟩ := NodeRow.of (ns := ns ++ ms) (by rw [cellsL_app]; exact hown3) (show 1 ≤ ns.length + ms.length by omega)
            have hgr : w2.grownBy w3 (some k) := hgrow3
            have ht3 : Turn [k] w2 w3 := Turn.of_grown hgr (fun x hx => by cases hx; exact .inl (by simp))
            have hT3 := (unhide HT2).grown hgr (fun x hx => by cases hx; exact .inr (by omega))
            have hcl3 := (ht3.cell (i := 0) hgl2 (by simp; omega)).trans hc2
            have hfl3 := (ht3.frozen (i := 0) hgl2 (by simp; omega)).trans hf2
            have hkr3 := (ht3.cell (i := 3) hnr2 (by simp; omega)).trans hkr2
            have hR3 := (unhide HR2).turn ht3 (by simp; omega) (by simp; omega)
            have hJ' := hide (show J + nN d = (j + 1) * nN d by rw [Nat.succ_mul, unhide hJ])
            have hs3 := ht3.size
            clear hown3 hgrow3 hgr hrowk hnews
            go_roundw
            case rel =>
              refine ⟨j + 1, J + nN d, k3, cap3, q2, L2, ns ++ ms, by omega, by go_num, rfl, unhide hJ', ⟨hrow3, ?_, hR3, hT3⟩, by simp; omega, by simp; omega, by omega, by omega, by omega, by omega, hcl3, hfl3, hkr3, by omega⟩
              intro n hn
              rcases List.mem_append.1 hn with hn | hn
              · exact (unhide HSN).1 n hn
              · exact (unhide HSN).2 n hn
            case measure => simp [intOf]; omega
          · have HF := hide (show RetNodes w.heap.size (nN (d + 1)) (.returned (.slice (some ⟨k, 0, none⟩) ns.length cap)) wr ∧ DrewOk base g gl p L (nN (d + 1)) w wr from
              ⟨⟨k, cap, ns, rfl, (unhide HP).1.mono (by omega), hn1, by simp only [nN]; omega, (unhide HP).2.1⟩, q, L', hq0, by simp only [nN]; omega, (unhide HP).2.2.1, by simp only [nN]; omega, by omega, hcr, hfr, (unhide HP).2.2.2⟩)
            clear HP
            go_wp2_with fail
            go_ret
            exact unhide HF
      · by_cases hk : kk = 23
        · skip
          subst hk
          have HA0 := hide (show Turn [] w7 (w7.alloc (.cells #[.int .i64 23, .int .i64 0, .string ⟨#[]⟩, .int .i64 c] 49)) from (Turn.refl _ _).alloc _)
          have HR8 := hide ((unhide HRc).turn (unhide HA0) (by simp) (by simp))
          go_wp2_with fail
          refine (l31Name_any _ base g (p + 1 + 1) (by omega) (unhide HR8)).mono ?_
          rintro e w8 ⟨s8, rfl, hnm, hr8, ht8⟩
          have hs8 := ht8.size
          have hg7 := (unhide HRc).lt
          have hb7 := (unhide HRc).above
          have hnb8 : w7.heap.size < w8.heap.size := by simp at hs8; omega
          have q0 : w8.cell? ⟨w7.heap.size, 0, none⟩ = some (.int .i64 23) := (ht8.cell (by simp) (by simp; omega)).trans (World.cell?_alloc_at _ _ _ _ rfl)
          have q1 : w8.cell? ⟨w7.heap.size, 1, none⟩ = some (.int .i64 0) := (ht8.cell (by simp) (by simp; omega)).trans (World.cell?_alloc_at _ _ _ _ rfl)
          have q2 : w8.cell? ⟨w7.heap.size, 2, none⟩ = some (.string ⟨#[]⟩) := (ht8.cell (by simp) (by simp; omega)).trans (World.cell?_alloc_at _ _ _ _ rfl)
          have q3 : w8.cell? ⟨w7.heap.size, 3, none⟩ = some (.int .i64 c) := (ht8.cell (by simp) (by simp; omega)).trans (World.cell?_alloc_at _ _ _ _ rfl)
          have qf : w8.frozen? ⟨w7.heap.size, 2, none⟩ = false := (ht8.frozen (by simp) (by simp; omega)).trans (World.frozen?_alloc_at _ _ _ _ rfl)
          have hsc : Turn [w7.heap.size] w8 (w8.setCell ⟨w7.heap.size, 2, none⟩ (.string s8)) := (Turn.refl _ _).setCell (by simp) _ _
          have r0 : (w8.setCell ⟨w7.heap.size, 2, none⟩ (.string s8)).cell? ⟨w7.heap.size, 0, none⟩ = some (.int .i64 23) := by rw [World.cell?_setCell_other _ _ _ _ (by simp)]; exact q0
          have r1 : (w8.setCell ⟨w7.heap.size, 2, none⟩ (.string s8)).cell? ⟨w7.heap.size, 1, none⟩ = some (.int .i64 0) := by rw [World.cell?_setCell_other _ _ _ _ (by simp)]; exact q1
          have r2 : (w8.setCell ⟨w7.heap.size, 2, none⟩ (.string s8)).cell? ⟨w7.heap.size, 2, none⟩ = some (.string s8) := World.cell?_setCell_same _ _ _ q2
          have hk3 : (w8.setCell ⟨w7.heap.size, 2, none⟩ (.string s8)).cell? ⟨w7.heap.size, 3, none⟩ = some (.int .i64 c) := by rw [World.cell?_setCell_other _ _ _ _ (by simp)]; exact q3
          have HRn := hide (hr8.turn hsc (by simp; omega) (by simp; omega))
          have HTn := hide (((((unhide HTc).trans ((unhide HA0).mono (by simp))).trans (ht8.mono (by simp)))).fresh hsc (by simp; omega))
          have hgln : gl < (w8.setCell ⟨w7.heap.size, 2, none⟩ (.string s8)).heap.size := by simp; omega
          have hcln := ((hsc.cell (i := 0) (show gl < w8.heap.size by omega) (by simp; omega)).trans (ht8.cell (i := 0) (by simp; omega) (by simpa using hne))).trans (((unhide HA0).cell (i := 0) hglc (by simp)).trans hclc)
          have hfln := ((hsc.frozen (i := 0) (show gl < w8.heap.size by omega) (by simp; omega)).trans (ht8.frozen (i := 0) (by simp; omega) (by simpa using hne))).trans (((unhide HA0).frozen (i := 0) hglc (by simp)).trans hflc)
          have hnbn : w7.heap.size < (w8.setCell ⟨w7.heap.size, 2, none⟩ (.string s8)).heap.size := by simpa using hnb8
          clear hr8 ht8 hsc q0 q1 q3
          have hbn : w.heap.size ≤ w7.heap.size := hszc
          have HNR := hide (NodeRow.lit' (B := w7.heap.size + 1) w8.heap.size (w8.setCell ⟨w7.heap.size, 2, none⟩ (.string s8)) [⟨23, 0, s8, c⟩] (by simp) (by simp; omega) (by simp))
          have HTA := hide (show Turn [] (w8.setCell ⟨w7.heap.size, 2, none⟩ (.string s8)) ((w8.setCell ⟨w7.heap.size, 2, none⟩ (.string s8)).alloc (.cells #[.int .i64 23, .int .i64 0, .string s8, .int .i64 c] 49)) from (Turn.refl _ _).alloc _)
          have HR9 := hide ((unhide HRn).turn (unhide HTA) (by simp) (by simp))
          have hcl9 := ((unhide HTA).cell (i := 0) hgln (by simp)).trans hcln
          have hfl9 := ((unhide HTA).frozen (i := 0) hgln (by simp)).trans hfln
          have hk9 := ((unhide HTA).cell (i := 3) hnbn (by simp)).trans hk3
          have HT9 := hide ((unhide HTn).trans ((unhide HTA).mono (by simp)))
          have hnb9 : w7.heap.size < ((w8.setCell ⟨w7.heap.size, 2, none⟩ (.string s8)).alloc (.cells #[.int .i64 23, .int .i64 0, .string s8, .int .i64 c] 49)).heap.size := Nat.lt_of_lt_of_le hnbn (unhide HTA).size
          have HNAM := hide hnm
          clear hnm
          go_wp2_with fail
          obtain ⟨i0, hi, hz0, hz1, hz2⟩ := info_parts infoNode4
          go_loopw [9, 10] (fun o i wr => ∃ (j J k cap q : Nat) (L' : Int) (ns : List NodeV), j ≤ c ∧ i = .int .i64 j ∧ o = .slice (some ⟨k, 0, none⟩) ns.length cap ∧ Hid (J = j * nN d) ∧ Hid (NodeRow (w7.heap.size + 1) wr k cap ns ∧ ShortNames ns ∧ RdIn base wr g q ∧ Turn [g, gl] w wr) ∧ 1 ≤ ns.length ∧ ns.length ≤ 1 + J ∧ p ≤ q ∧ q ≤ p + 5 + 6 * J ∧ L - 1 - J ≤ L' ∧ L' ≤ L - 1 ∧ wr.cell? ⟨gl, 0, none⟩ = some (.int .i64 L') ∧ wr.frozen? ⟨gl, 0, none⟩ = false ∧ wr.cell? ⟨w7.heap.size, 3, none⟩ = some (.int .i64 c) ∧ w7.heap.size < wr.heap.size) (fun _ i _ => c - (intOf i).toNat)
          case atStart =>
            refine ⟨0, 0, _, _, (p + 1 + 1 + 1), L - 1, [⟨23, 0, s8, c⟩], Nat.zero_le _, rfl, rfl, (Nat.zero_mul _).symm, ⟨unhide HNR, ?_, unhide HR9, unhide HT9⟩, by simp, by simp, by omega, by omega, by omega, by omega, hcl9, hfl9, hk9, hnb9⟩
            intro n hn
            simp at hn
            subst hn
            exact unhide HNAM
          case round =>
            obtain ⟨j, J, k, cap, q, L', ns, hj, rfl, rfl, hJ, HP, hn1, hnJ, hq0, hq1, hl0, hl1, hcr, hfr, hkr, hnr⟩ := hrel
            clear hcl9 hfl9 hk9 hnb9 hcln hfln hk3 hgln hnbn
            have hN := nN_le d hd8
            have hNp := nN_pos d
            have hJ3 : J ≤ 3 * nN d := by rw [unhide hJ]; exact Nat.mul_le_mul_right _ (by omega)
            by_cases hlt : (j : Int) < (c : Int)
            · have hkB := (unhide HP).1.block
              have hglr : gl < wr.heap.size := Nat.lt_of_lt_of_le hgl (unhide HP).2.2.2.size
              have hJ2 : J ≤ 2 * nN d := by rw [unhide hJ]; exact Nat.mul_le_mul_right _ (by omega)
              have hp2 : q + 6 * nN d ≤ 200000000000 := by simp only [nN] at hp; omega
              have hl2 : -1000000000 ≤ L' - nN d := by simp only [nN] at hL0; omega
              have HC := hide (unhide IH wr base g gl q L' (unhide HP).2.2.1 hp2 hne hbl hglr hcr hfr hl2 (by omega))
              go_wp2_with fail
              refine (unhide HC).mono ?_
              rintro e w2 ⟨⟨k2, cap2, ms, rfl, hrow2, hm1, hmK, hsn2⟩, q2, L2, hq20, hq21, hr2, hl20, hl21, hc2, hf2, ht2⟩
              have hs2 := ht2.size
              have hkg : k ≠ g ∧ k ≠ gl := by have := (unhide HP).2.2.1.lt; have := (unhide HP).2.2.2.size; omega
              have hrowk := (unhide HP).1.turn ht2 (by simp; exact hkg)
              have hkr2 := (ht2.cell (i := 3) hnr (by simp; omega)).trans hkr
              have hnews := hrow2.news
              have HR2 := hide hr2
              have HT2 := hide ((unhide HP).2.2.2.trans ht2)
              have HSN := hide (And.intro (unhide HP).2.1 hsn2)
              have hgl2 : gl < w2.heap.size := Nat.lt_of_lt_of_le hglr hs2
              have hnr2 : w7.heap.size < w2.heap.size := Nat.lt_of_lt_of_le hnr hs2
              have hg2 := (unhide HR2).lt
              have hgb2 := (unhide HR2).above
              clear hr2 ht2 hsn2 HC HP
              go_wp2_with (first
                | (at_builtin; refine wpList_append_own _ rfl _ _ 31 rfl (w7.heap.size + 1) 49 i0 _ 4 40 Tryz.underlying31 hi hz0 hz1 hz2 rfl (by decide) (.slice (some ⟨k, 0, none⟩) ns.length cap) ns.length (cellsL ns) rfl hrowk ⟨k2, 0, none⟩ ms.length cap2 (cellsL ms) rfl (cellsL_len ms) hnews (cellsL_one ms) (by unfold maxLen; omega) (by omega) (by omega) ?_; intro v3 w3 hown3 hgrow3 _))
              obtain ⟨k3, cap3, rfl, hrow3⟩ := NodeRow.of (ns := ns ++ ms) (by rw [cellsL_app]; exact hown3) (show 1 ≤ ns.length + ms.length by omega)
              have hgr : w2.grownBy w3 (some k) := hgrow3
              have ht3 : Turn [k] w2 w3 := Turn.of_grown hgr (fun x hx => by cases hx; exact .inl (by simp))
              have hT3 := (unhide HT2).grown hgr (fun x hx => by cases hx; exact .inr (by omega))
              have hcl3 := (ht3.cell (i := 0) hgl2 (by simp; omega)).trans hc2
              have hfl3 := (ht3.frozen (i := 0) hgl2 (by simp; omega)).trans hf2
              have hkr3 := (ht3.cell (i := 3) hnr2 (by simp; omega)).trans hkr2
              have hR3 := (unhide HR2).turn ht3 (by simp; omega) (by simp; omega)
              have hJ' := hide (show J + nN d = (j + 1) * nN d by rw [Nat.succ_mul, unhide hJ])
              have hs3 := ht3.size
              clear hown3 hgrow3 hgr hrowk hnews
              go_roundw
              case rel =>
                refine ⟨j + 1, J + nN d, k3, cap3, q2, L2, ns ++ ms, by omega, by go_num, rfl, unhide hJ', ⟨hrow3, ?_, hR3, hT3⟩, by simp; omega, by simp; omega, by omega, by omega, by omega, by omega, hcl3, hfl3, hkr3, by omega⟩
                intro n hn
                rcases List.mem_append.1 hn with hn | hn
                · exact (unhide HSN).1 n hn
                · exact (unhide HSN).2 n hn
              case measure => simp [intOf]; omega
            · have HF := hide (show RetNodes w.heap.size (nN (d + 1)) (.returned (.slice (some ⟨k, 0, none⟩) ns.length cap)) wr ∧ DrewOk base g gl p L (nN (d + 1)) w wr from
                ⟨⟨k, cap, ns, rfl, (unhide HP).1.mono (by omega), hn1, by simp only [nN]; omega, (unhide HP).2.1⟩, q, L', hq0, by simp only [nN]; omega, (unhide HP).2.2.1, by simp only [nN]; omega, by omega, hcr, hfr, (unhide HP).2.2.2⟩)
              clear HP
              go_wp2_with fail
              go_ret
              exact unhide HF
        · have e22 : (kk == 22) = false := by simp; omega
          have e23 : (kk == 23) = false := by simp; omega
          have HA0 := hide (show Turn [] w7 (w7.alloc (.cells #[.int .i64 kk, .int .i64 0, .string ⟨#[]⟩, .int .i64 c] 49)) from (Turn.refl _ _).alloc _)
          have HRn := hide ((unhide HRc).turn (unhide HA0) (by simp) (by simp))
          have HTn := hide ((unhide HTc).trans ((unhide HA0).mono (by simp)))
          have hgln : gl < (w7.alloc (.cells #[.int .i64 kk, .int .i64 0, .string ⟨#[]⟩, .int .i64 c] 49)).heap.size := Nat.lt_of_lt_of_le hglc (unhide HA0).size
          have hcln := ((unhide HA0).cell (i := 0) hglc (by simp)).trans hclc
          have hfln := ((unhide HA0).frozen (i := 0) hglc (by simp)).trans hflc
          have hnbn : w7.heap.size < (w7.alloc (.cells #[.int .i64 kk, .int .i64 0, .string ⟨#[]⟩, .int .i64 c] 49)).heap.size := by simp
          have hk3 : (w7.alloc (.cells #[.int .i64 kk, .int .i64 0, .string ⟨#[]⟩, .int .i64 c] 49)).cell? ⟨w7.heap.size, 3, none⟩ = some (.int .i64 c) := by rw [World.cell?_alloc_at _ _ _ _ rfl]; rfl
          have hnm : (⟨#[]⟩ : ByteArray).size ≤ 16 := by decide
          have hbn : w.heap.size ≤ w7.heap.size := hszc
          have HNR := hide (NodeRow.lit' (B := w7.heap.size + 1) (w7.heap.size + 1) (w7.alloc (.cells #[.int .i64 kk, .int .i64 0, .string ⟨#[]⟩, .int .i64 c] 49)) [⟨kk, 0, ⟨#[]⟩, c⟩] (by simp) (by simp) (by simp))
          have HTA := hide (show Turn [] (w7.alloc (.cells #[.int .i64 kk, .int .i64 0, .string ⟨#[]⟩, .int .i64 c] 49)) ((w7.alloc (.cells #[.int .i64 kk, .int .i64 0, .string ⟨#[]⟩, .int .i64 c] 49)).alloc (.cells #[.int .i64 kk, .int .i64 0, .string ⟨#[]⟩, .int .i64 c] 49)) from (Turn.refl _ _).alloc _)
          have HR9 := hide ((unhide HRn).turn (unhide HTA) (by simp) (by simp))
          have hcl9 := ((unhide HTA).cell (i := 0) hgln (by simp)).trans hcln
          have hfl9 := ((unhide HTA).frozen (i := 0) hgln (by simp)).trans hfln
          have hk9 := ((unhide HTA).cell (i := 3) hnbn (by simp)).trans hk3
          have HT9 := hide ((unhide HTn).trans ((unhide HTA).mono (by simp)))
          have hnb9 : w7.heap.size < ((w7.alloc (.cells #[.int .i64 kk, .int .i64 0, .string ⟨#[]⟩, .int .i64 c] 49)).alloc (.cells #[.int .i64 kk, .int .i64 0, .string ⟨#[]⟩, .int .i64 c] 49)).heap.size := Nat.lt_of_lt_of_le hnbn (unhide HTA).size
          have HNAM := hide hnm
          clear hnm
          go_wp2_with fail
          obtain ⟨i0, hi, hz0, hz1, hz2⟩ := info_parts infoNode4
          go_loopw [9, 10] (fun o i wr => ∃ (j J k cap q : Nat) (L' : Int) (ns : List NodeV), j ≤ c ∧ i = .int .i64 j ∧ o = .slice (some ⟨k, 0, none⟩) ns.length cap ∧ Hid (J = j * nN d) ∧ Hid (NodeRow (w7.heap.size + 1) wr k cap ns ∧ ShortNames ns ∧ RdIn base wr g q ∧ Turn [g, gl] w wr) ∧ 1 ≤ ns.length ∧ ns.length ≤ 1 + J ∧ p ≤ q ∧ q ≤ p + 5 + 6 * J ∧ L - 1 - J ≤ L' ∧ L' ≤ L - 1 ∧ wr.cell? ⟨gl, 0, none⟩ = some (.int .i64 L') ∧ wr.frozen? ⟨gl, 0, none⟩ = false ∧ wr.cell? ⟨w7.heap.size, 3, none⟩ = some (.int .i64 c) ∧ w7.heap.size < wr.heap.size) (fun _ i _ => c - (intOf i).toNat)
          case atStart =>
            refine ⟨0, 0, _, _, (p + 1 + 1), L - 1, [⟨kk, 0, ⟨#[]⟩, c⟩], Nat.zero_le _, rfl, rfl, (Nat.zero_mul _).symm, ⟨unhide HNR, ?_, unhide HR9, unhide HT9⟩, by simp, by simp, by omega, by omega, by omega, by omega, hcl9, hfl9, hk9, hnb9⟩
            intro n hn
            simp at hn
            subst hn
            exact unhide HNAM
          case round =>
            obtain ⟨j, J, k, cap, q, L', ns, hj, rfl, rfl, hJ, HP, hn1, hnJ, hq0, hq1, hl0, hl1, hcr, hfr, hkr, hnr⟩ := hrel
            clear hcl9 hfl9 hk9 hnb9 hcln hfln hk3 hgln hnbn
            have hN := nN_le d hd8
            have hNp := nN_pos d
            have hJ3 : J ≤ 3 * nN d := by rw [unhide hJ]; exact Nat.mul_le_mul_right _ (by omega)
            by_cases hlt : (j : Int) < (c : Int)
            · have hkB := (unhide HP).1.block
              have hglr : gl < wr.heap.size := Nat.lt_of_lt_of_le hgl (unhide HP).2.2.2.size
              have hJ2 : J ≤ 2 * nN d := by rw [unhide hJ]; exact Nat.mul_le_mul_right _ (by omega)
              have hp2 : q + 6 * nN d ≤ 200000000000 := by simp only [nN] at hp; omega
              have hl2 : -1000000000 ≤ L' - nN d := by simp only [nN] at hL0; omega
              have HC := hide (unhide IH wr base g gl q L' (unhide HP).2.2.1 hp2 hne hbl hglr hcr hfr hl2 (by omega))
              go_wp2_with fail
              refine (unhide HC).mono ?_
              rintro e w2 ⟨⟨k2, cap2, ms, rfl, hrow2, hm1, hmK, hsn2⟩, q2, L2, hq20, hq21, hr2, hl20, hl21, hc2, hf2, ht2⟩
              have hs2 := ht2.size
              have hkg : k ≠ g ∧ k ≠ gl := by have := (unhide HP).2.2.1.lt; have := (unhide HP).2.2.2.size; omega
              have hrowk := (unhide HP).1.turn ht2 (by simp; exact hkg)
              have hkr2 := (ht2.cell (i := 3) hnr (by simp; omega)).trans hkr
              have hnews := hrow2.news
              have HR2 := hide hr2
              have HT2 := hide ((unhide HP).2.2.2.trans ht2)
              have HSN := hide (And.intro (unhide HP).2.1 hsn2)
              have hgl2 : gl < w2.heap.size := Nat.lt_of_lt_of_le hglr hs2
              have hnr2 : w7.heap.size < w2.heap.size := Nat.lt_of_lt_of_le hnr hs2
              have hg2 := (unhide HR2).lt
              have hgb2 := (unhide HR2).above
              clear hr2 ht2 hsn2 HC HP
              go_wp2_with (first
                | (at_builtin; refine wpList_append_own _ rfl _ _ 31 rfl (w7.heap.size + 1) 49 i0 _ 4 40 Tryz.underlying31 hi hz0 hz1 hz2 rfl (by decide) (.slice (some ⟨k, 0, none⟩) ns.length cap) ns.length (cellsL ns) rfl hrowk ⟨k2, 0, none⟩ ms.length cap2 (cellsL ms) rfl (cellsL_len ms) hnews (cellsL_one ms) (by unfold maxLen; omega) (by omega) (by omega) ?_; intro v3 w3 hown3 hgrow3 _))
              obtain ⟨k3, cap3, rfl, hrow3⟩ := NodeRow.of (ns := ns ++ ms) (by rw [cellsL_app]; exact hown3) (show 1 ≤ ns.length + ms.length by omega)
              have hgr : w2.grownBy w3 (some k) := hgrow3
              have ht3 : Turn [k] w2 w3 := Turn.of_grown hgr (fun x hx => by cases hx; exact .inl (by simp))
              have hT3 := (unhide HT2).grown hgr (fun x hx => by cases hx; exact .inr (by omega))
              have hcl3 := (ht3.cell (i := 0) hgl2 (by simp; omega)).trans hc2
              have hfl3 := (ht3.frozen (i := 0) hgl2 (by simp; omega)).trans hf2
              have hkr3 := (ht3.cell (i := 3) hnr2 (by simp; omega)).trans hkr2
              have hR3 := (unhide HR2).turn ht3 (by simp; omega) (by simp; omega)
              have hJ' := hide (show J + nN d = (j + 1) * nN d by rw [Nat.succ_mul, unhide hJ])
              have hs3 := ht3.size
              clear hown3 hgrow3 hgr hrowk hnews
              go_roundw
              case rel =>
                refine ⟨j + 1, J + nN d, k3, cap3, q2, L2, ns ++ ms, by omega, by go_num, rfl, unhide hJ', ⟨hrow3, ?_, hR3, hT3⟩, by simp; omega, by simp; omega, by omega, by omega, by omega, by omega, hcl3, hfl3, hkr3, by omega⟩
                intro n hn
                rcases List.mem_append.1 hn with hn | hn
                · exact (unhide HSN).1 n hn
                · exact (unhide HSN).2 n hn
              case measure => simp [intOf]; omega
            · have HF := hide (show RetNodes w.heap.size (nN (d + 1)) (.returned (.slice (some ⟨k, 0, none⟩) ns.length cap)) wr ∧ DrewOk base g gl p L (nN (d + 1)) w wr from
                ⟨⟨k, cap, ns, rfl, (unhide HP).1.mono (by omega), hn1, by simp only [nN]; omega, (unhide HP).2.1⟩, q, L', hq0, by simp only [nN]; omega, (unhide HP).2.2.1, by simp only [nN]; omega, by omega, hcr, hfr, (unhide HP).2.2.2⟩)
              clear HP
              go_wp2_with fail
              go_ret
              exact unhide HF

theorem l31Tree_any (d : Nat) (h : d ≤ 9) : TreeSaid d := by
  induction d with
  | zero => exact tree_leaf 0 (by omega)
  | succ d ih =>
    by_cases hd : d = 0
    · subst hd; exact tree_leaf 1 (by omega)
    · exact tree_node d (by omega) (by omega) (ih (by omega))

end Go.Proofs.YtjfebnplffpmoaaGreatDoor
