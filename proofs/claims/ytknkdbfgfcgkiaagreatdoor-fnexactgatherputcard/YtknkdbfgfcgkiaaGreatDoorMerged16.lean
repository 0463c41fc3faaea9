/-
  Two stamps side by side: a pair of marks for each source that one of both has.
-/
/-
  The version that marks have of a source: the first one tells; both sides' ways to find it.
-/
/-
  Which pairs come of two stamps: for each source the versions of both.
-/
import Derived.Test.YtknkdbfgfcgkiaaGreatDoorMerged14
import Derived.Test.YtknkdbfgfcgkiaaGreatDoorMerged4
import Derived.Test.YtknkdbfgfcgkiaaGreatDoorMerged10
import Derived.BigQuiet
import Derived.Deep.QuietTactic
import Derived.Handy
set_option linter.unusedVariables false
namespace Go.Proofs.YtknkdbfgfcgkiaaGreatDoor
open Go.RowKit Go.Maps Go.Deep

/-- the marks of both for each source, the version 0 where one has none -/
def sideL : List MarkV → List MarkV → List (MarkV × MarkV)
 | [], [] => []
 | x :: xs, [] => (x, ⟨x.a0, 0⟩) :: sideL xs []
 | [], y :: ys => (⟨y.a0, 0⟩, y) :: sideL [] ys
 | x :: xs, y :: ys =>
  if lessS x.a0 y.a0 then (x, ⟨x.a0, 0⟩) :: sideL xs (y :: ys)
  else if lessS y.a0 x.a0 then (⟨y.a0, 0⟩, y) :: sideL (x :: xs) ys
  else (x, y) :: sideL xs ys
termination_by xs ys => xs.length + ys.length
theorem sideL_len (xa xb : List MarkV) : (sideL xa xb).length ≤ xa.length + xb.length := by
 fun_induction sideL xa xb <;> simp_all <;> omega
/-- what has come, where so many of both are through -/
def SideTo (xa xb : List MarkV) (i j : Nat) (pre : List (MarkV × MarkV)) : Prop := pre ++ sideL (xa.drop i) (xb.drop j) = sideL xa xb
theorem side_start (xa xb : List MarkV) : SideTo xa xb 0 0 [] := by simp [SideTo]
theorem side_end {xa xb : List MarkV} {pre : List (MarkV × MarkV)} (h : SideTo xa xb xa.length xb.length pre) : pre = sideL xa xb := by
 unfold SideTo at h
 simpa [sideL] using h
theorem side_pre {xa xb : List MarkV} {i j : Nat} {pre : List (MarkV × MarkV)} (h : SideTo xa xb i j pre) : pre <+: sideL xa xb := ⟨_, h⟩
theorem side_lt {xa xb : List MarkV} {pre : List (MarkV × MarkV)} {x : MarkV × MarkV} {i' j' : Nat} (h : SideTo xa xb i' j' (pre ++ [x])) : pre.length < xa.length + xb.length := by
 have h1 := congrArg List.length h
 have h2 := sideL_len xa xb
 simp at h1
 omega
theorem side_has {xa xb : List MarkV} {pre : List (MarkV × MarkV)} {x : MarkV × MarkV} {i j : Nat} (h : SideTo xa xb i j (pre ++ [x])) : x ∈ sideL xa xb := by
 unfold SideTo at h
 rw [← h]
 simp
theorem side_a {xa xb : List MarkV} {i : Nat} {pre : List (MarkV × MarkV)} (h : SideTo xa xb i xb.length pre) (hi : i < xa.length) : SideTo xa xb (i + 1) xb.length (pre ++ [(xa[i], ⟨xa[i].a0, 0⟩)]) := by
 unfold SideTo at *
 rw [List.drop_eq_getElem_cons hi] at h
 simp only [List.drop_length, sideL] at h ⊢
 simpa using h
theorem side_b {xa xb : List MarkV} {j : Nat} {pre : List (MarkV × MarkV)} (h : SideTo xa xb xa.length j pre) (hj : j < xb.length) : SideTo xa xb xa.length (j + 1) (pre ++ [(⟨xb[j].a0, 0⟩, xb[j])]) := by
 unfold SideTo at *
 rw [List.drop_eq_getElem_cons hj] at h
 simp only [List.drop_length, sideL] at h ⊢
 simpa using h
theorem side_lo {xa xb : List MarkV} {i j : Nat} {pre : List (MarkV × MarkV)} (h : SideTo xa xb i j pre) (hi : i < xa.length) (hj : j < xb.length) (hl : lessS xa[i].a0 xb[j].a0 = true) : SideTo xa xb (i + 1) j (pre ++ [(xa[i], ⟨xa[i].a0, 0⟩)]) := by
 unfold SideTo at *
 rw [List.drop_eq_getElem_cons hi, List.drop_eq_getElem_cons hj, sideL, if_pos hl] at h
 rw [List.drop_eq_getElem_cons hj]
 simpa using h
theorem side_hi {xa xb : List MarkV} {i j : Nat} {pre : List (MarkV × MarkV)} (h : SideTo xa xb i j pre) (hi : i < xa.length) (hj : j < xb.length) (hl : lessS xa[i].a0 xb[j].a0 = false) (hr : lessS xb[j].a0 xa[i].a0 = true) : SideTo xa xb i (j + 1) (pre ++ [(⟨xb[j].a0, 0⟩, xb[j])]) := by
 unfold SideTo at *
 rw [List.drop_eq_getElem_cons hi, List.drop_eq_getElem_cons hj, sideL, if_neg (by simp [hl]), if_pos hr] at h
 rw [List.drop_eq_getElem_cons hi]
 simpa using h
theorem side_eq {xa xb : List MarkV} {i j : Nat} {pre : List (MarkV × MarkV)} (h : SideTo xa xb i j pre) (hi : i < xa.length) (hj : j < xb.length) (hl : lessS xa[i].a0 xb[j].a0 = false) (hr : lessS xb[j].a0 xa[i].a0 = false) : SideTo xa xb (i + 1) (j + 1) (pre ++ [(xa[i], xb[j])]) := by
 unfold SideTo at *
 rw [List.drop_eq_getElem_cons hi, List.drop_eq_getElem_cons hj, sideL, if_neg (by simp [hl]), if_neg (by simp [hr])] at h
 simpa using h
end Go.Proofs.YtknkdbfgfcgkiaaGreatDoor

set_option linter.unusedVariables false
namespace Go.Proofs.YtknkdbfgfcgkiaaGreatDoor
open Go.RowKit Go.Maps Go.Deep

def getV : List MarkV → ByteArray → Int
 | [], _ => 0
 | x :: xs, s => if x.a0 = s then x.a1 else getV xs s
theorem getV_hit (ns : List MarkV) (s : ByteArray) (k : Nat) (hk : k < ns.length) (he : ns[k].a0 = s) (hn : ∀ j (h : j < ns.length), j < k → ns[j].a0 ≠ s) : getV ns s = ns[k].a1 := by
 induction ns generalizing k with
 | nil => simp at hk
 | cons x xs ih =>
  cases k with
  | zero => simp at he; simp [getV, he]
  | succ k =>
   have h0 := hn 0 (by simp) (by omega)
   simp at h0
   simp only [getV, if_neg h0]
   simp only [List.getElem_cons_succ]
   exact ih k (by simpa using hk) (by simpa using he) (fun j h hj => by have := hn (j + 1) (by simpa using h) (by omega); simpa using this)
theorem getV_miss (ns : List MarkV) (s : ByteArray) (hn : ∀ j (h : j < ns.length), ns[j].a0 ≠ s) : getV ns s = 0 := by
 induction ns with
 | nil => rfl
 | cons x xs ih =>
  have h0 := hn 0 (by simp)
  simp at h0
  simp only [getV, if_neg h0]
  exact ih (fun j h => by have := hn (j + 1) (by simpa using h); simpa using this)
set_option maxHeartbeats 1600000 in
theorem l13Get_row (w : World) (b off cap : Nat) (ns : List MarkV) (s : ByteArray) (hl : (ns.length : Int) ≤ 1048576) (hc : MarkAt w b off ns) :
  Calls Tryz.prog 85 #[.slice (some ⟨b, off, none⟩) ns.length cap, .string s] w fun e w' => e = .returned (.int .i64 (getV ns s)) ∧ w' = w := by
 have HC := hide hc
 clear hc
 go_enter Tryz.func85, Tryz.ntmps85
 go_wp2_with fail
 go_loop [5] (fun i => ∃ k : Nat, k ≤ ns.length ∧ i = .int .i64 k ∧ Hid (∀ j (h : j < ns.length), j < k → ns[j].a0 ≠ s)) (fun i => ns.length - (intOf i).toNat)
 case atStart => exact ⟨0, Nat.zero_le _, rfl, fun j h hj => absurd hj (Nat.not_lt_zero _)⟩
 case round =>
  obtain ⟨k, hk, rfl, HN⟩ := hrel
  by_cases hlt : k < ns.length
  ·obtain ⟨c0, c1⟩ := unhide HC k hlt
   by_cases he : ns[k].a0 = s
   ·have hf := hide (getV_hit ns s k hlt he (fun j h hj => unhide HN j h hj))
    rw [he] at c0
    clear he
    generalize ns[k].a1 = vl at *
    go_wp2_with fail
    go_ret
    exact ⟨ret_int (unhide hf).symm, rfl⟩
   ·have HN2 := hide (show ∀ j (h : j < ns.length), j < k + 1 → ns[j].a0 ≠ s from fun j h hj => by
     by_cases e : j = k
     ·subst e; exact he
     ·exact unhide HN j h (by omega))
    have qe : (ns[k].a0.toList == s.toList) = false := by rw [str_same]; simpa using he
    clear he
    generalize ns[k].a0 = nm at *
    generalize ns[k].a1 = vl at *
    go_wp2_with fail
    go_round
    case rel => exact ⟨k + 1, by omega, by go_num, HN2⟩
    case measure => simp [intOf]; omega
  ·have hf := hide (getV_miss ns s (fun j h => unhide HN j h (by omega)))
   go_wp2_with fail
   go_ret
   exact ⟨ret_int (unhide hf).symm, rfl⟩
theorem l13Get_none (w : World) (a : Option Addr) (cap : Nat) (s : ByteArray) : Calls Tryz.prog 85 #[.slice a 0 cap, .string s] w fun e w' => e = .returned (.int .i64 (getV [] s)) ∧ w' = w := by
 go_enter Tryz.func85, Tryz.ntmps85
 go_wp2_with fail
 refine wp_loop_rounds 1 ?_
 rw [rounds_succ]
 go_wp2_with fail
 go_ret
 exact ⟨rfl, rfl⟩
theorem l13Get_any (ns : List MarkV) (v : Value) (s : ByteArray) (w : World) (hs : SmallMarkS ns) (h : MarkSRd w v ns) : Calls Tryz.prog 85 #[v, .string s] w fun e w' => e = .returned (.int .i64 (getV ns s)) ∧ w' = w := by
 obtain ⟨a, c, rfl, h⟩ := h
 rcases h with rfl | ⟨b, off, rfl, hb, hc⟩
 ·exact l13Get_none w a c s
 ·exact l13Get_row w b off c ns s (by have := hs.1.1; omega) hc
set_option maxHeartbeats 1600000 in
theorem verIn_row (w : World) (b off cap : Nat) (ns : List MarkV) (s : ByteArray) (hl : (ns.length : Int) ≤ 1048576) (hc : MarkAt w b off ns) (hb : b < w.heap.size) :
  Calls Tryz.prog 145 #[.slice (some ⟨b, off, none⟩) ns.length cap, .string s] w fun e w' => e = .returned (.int .i64 (getV ns s)) ∧ Below w.heap.size w w' := by
 have HC := hide hc
 clear hc
 go_enter Tryz.func145, Tryz.ntmps145
 go_wp2_with fail
 go_loopw [9] (fun i wr => ∃ k : Nat, k ≤ ns.length ∧ i = .int .i64 k ∧ Hid (∀ j (h : j < ns.length), j < k → ns[j].a0 ≠ s) ∧ Hid (Below w.heap.size w wr)) (fun i _ => ns.length - (intOf i).toNat)
 case atStart => exact ⟨0, Nat.zero_le _, rfl, fun j h hj => absurd hj (Nat.not_lt_zero _), Below.refl _ _⟩
 case round =>
  obtain ⟨k, hk, rfl, HN, HB⟩ := hrel
  by_cases hlt : k < ns.length
  ·obtain ⟨c0, c1⟩ := (unhide HC).below (unhide HB) hb k hlt
   by_cases he : ns[k].a0 = s
   ·have hf := hide (getV_hit ns s k hlt he (fun j h hj => unhide HN j h hj))
    rw [he] at c0
    clear he
    generalize ns[k].a1 = vl at *
    go_wp2_with fail
    go_ret
    exact ⟨ret_int (unhide hf).symm, (unhide HB).trans (Below.mono (by go_grown) (unhide HB).size)⟩
   ·have HN2 := hide (show ∀ j (h : j < ns.length), j < k + 1 → ns[j].a0 ≠ s from fun j h hj => by
     by_cases e : j = k
     ·subst e; exact he
     ·exact unhide HN j h (by omega))
    have qe : (ns[k].a0.toList == s.toList) = false := by rw [str_same]; simpa using he
    clear he
    generalize ns[k].a0 = nm at *
    generalize ns[k].a1 = vl at *
    have HB2 := hide ((unhide HB).trans (Below.mono (by go_grown : Below wr.heap.size wr (wr.alloc (.cells #[.string nm, .int .i64 vl] 112))) (unhide HB).size))
    go_wp2_with fail
    go_roundw
    case rel => exact ⟨k + 1, by omega, by go_num, HN2, HB2⟩
    case measure => simp [intOf]; omega
  ·have hf := hide (getV_miss ns s (fun j h => unhide HN j h (by omega)))
   go_wp2_with fail
   go_ret
   exact ⟨ret_int (unhide hf).symm, unhide HB⟩
theorem verIn_none (w : World) (a : Option Addr) (cap : Nat) (s : ByteArray) : Calls Tryz.prog 145 #[.slice a 0 cap, .string s] w fun e w' => e = .returned (.int .i64 (getV [] s)) ∧ Below w.heap.size w w' := by
 go_enter Tryz.func145, Tryz.ntmps145
 go_wp2_with fail
 refine wp_loop_rounds 1 ?_
 rw [rounds_succ]
 go_wp2_with fail
 go_ret
 exact ⟨rfl, Below.refl _ _⟩
theorem verIn_any (ns : List MarkV) (v : Value) (s : ByteArray) (w : World) (hs : SmallMarkS ns) (h : MarkSRd w v ns) : Calls Tryz.prog 145 #[v, .string s] w fun e w' => e = .returned (.int .i64 (getV ns s)) ∧ Below w.heap.size w w' := by
 obtain ⟨a, c, rfl, h⟩ := h
 rcases h with rfl | ⟨b, off, rfl, hb, hc⟩
 ·exact verIn_none w a c s
 ·exact verIn_row w b off c ns s (by have := hs.1.1; omega) hc hb
end Go.Proofs.YtknkdbfgfcgkiaaGreatDoor

set_option linter.unusedVariables false
namespace Go.Proofs.YtknkdbfgfcgkiaaGreatDoor
open Go.RowKit Go.Maps Go.Deep

theorem bytesLess_trans : ∀ (x y z : List UInt8), Op.bytesLess x y = true → Op.bytesLess y z = true → Op.bytesLess x z = true
 | [], y, [], h1, h2 => by cases y <;> simp [Op.bytesLess] at h1 h2
 | [], y, _ :: _, h1, h2 => by simp [Op.bytesLess]
 | _ :: _, [], _, h1, h2 => by simp [Op.bytesLess] at h1
 | a :: x, b :: y, [], h1, h2 => by simp [Op.bytesLess] at h2
 | a :: x, b :: y, c :: z, h1, h2 => by
  have ih := bytesLess_trans x y z
  simp [Op.bytesLess, UInt8.lt_iff_toNat_lt, ← UInt8.toNat_inj] at h1 h2 ⊢
  by_cases e1 : a.toNat < b.toNat
  ·by_cases e2 : b.toNat < c.toNat
   ·left; omega
   ·have := h2.resolve_left e2
    left; omega
  ·have h3 := h1.resolve_left e1
   by_cases e2 : b.toNat < c.toNat
   ·left; omega
   ·have h4 := h2.resolve_left e2
    right; exact ⟨by omega, ih h3.2 h4.2⟩
theorem bytesLess_irrefl : ∀ x : List UInt8, Op.bytesLess x x = false
 | [] => by simp [Op.bytesLess]
 | a :: x => by simp [Op.bytesLess, bytesLess_irrefl x]
theorem less_trans {a b c : ByteArray} (h1 : lessS a b = true) (h2 : lessS b c = true) : lessS a c = true := bytesLess_trans _ _ _ h1 h2
theorem less_irrefl (a : ByteArray) : lessS a a = false := bytesLess_irrefl _
theorem less_ne {a b : ByteArray} (h : lessS a b = true) : a ≠ b := fun e => by subst e; rw [less_irrefl] at h; cases h
theorem less_tri {a b : ByteArray} (h1 : lessS a b = false) (h2 : lessS b a = false) : a = b := by
 have := less_other a.toList b.toList
 unfold lessS at h1 h2
 rw [h1, h2, Bool.false_or, str_same] at this
 simpa using this
/-- sources ascend -/
def AscM : List MarkV → Prop
 | [] => True
 | x :: xs => (∀ y ∈ xs, lessS x.a0 y.a0 = true) ∧ AscM xs
theorem asc_of_adj : ∀ (ns : List MarkV), (∀ i (h : i + 1 < ns.length), lessS (ns[i]).a0 (ns[i + 1]).a0 = true) → AscM ns
 | [], _ => trivial
 | [x], _ => ⟨by simp, trivial⟩
 | x :: y :: zs, h => by
  have ih := asc_of_adj (y :: zs) (fun i hi => by have := h (i + 1) (by simpa using hi); simpa using this)
  have h0 := h 0 (by simp)
  simp at h0
  refine ⟨fun z hz => ?_, ih⟩
  rcases List.mem_cons.1 hz with rfl | hz
  ·exact h0
  ·exact less_trans h0 (ih.1 z hz)
theorem asc_of_stamp {ns : List MarkV} (h : mstampB ns = true) : AscM ns := by
 simp only [mstampB, Bool.and_eq_true, decide_eq_true_eq] at h
 refine asc_of_adj ns fun i hi => ?_
 have := (h.2 (i + 1) hi hi).2 (by omega)
 simpa using this
theorem pos_of_stamp {ns : List MarkV} (h : mstampB ns = true) : ∀ x ∈ ns, 1 ≤ x.a1 := by
 simp only [mstampB, Bool.and_eq_true, decide_eq_true_eq] at h
 intro x hx
 obtain ⟨i, hi, rfl⟩ := List.getElem_of_mem hx
 have := (h.2 i hi hi).1
 simp only [markB, Bool.and_eq_true, decide_eq_true_eq] at this
 exact this.1.2
theorem getV_none {ns : List MarkV} {s : ByteArray} (h : ∀ x ∈ ns, x.a0 ≠ s) : getV ns s = 0 := getV_miss ns s fun j hj => h _ (List.getElem_mem hj)
theorem getV_mem {ns : List MarkV} (h : AscM ns) {x : MarkV} (hx : x ∈ ns) : getV ns x.a0 = x.a1 := by
 induction ns with
 | nil => simp at hx
 | cons y ys ih =>
  rcases List.mem_cons.1 hx with rfl | hx
  ·simp [getV]
  ·have := less_ne (h.1 x hx)
   simp only [getV, if_neg this]
   exact ih h.2 hx
theorem getV_tail {x : MarkV} {xs : List MarkV} {s : ByteArray} (h : x.a0 ≠ s) : getV (x :: xs) s = getV xs s := by simp [getV, h]
def srcIn (s : ByteArray) (ns : List MarkV) : Prop := ∃ x ∈ ns, x.a0 = s
theorem srcIn_cons {s : ByteArray} {x : MarkV} {xs : List MarkV} : srcIn s (x :: xs) ↔ x.a0 = s ∨ srcIn s xs := by simp [srcIn]
theorem srcIn_above {x : MarkV} {xs : List MarkV} {s : ByteArray} (h : ∀ y ∈ xs, lessS x.a0 y.a0 = true) (hs : srcIn s xs) : lessS x.a0 s = true := by
 obtain ⟨y, hy, rfl⟩ := hs
 exact h y hy
theorem getV_not {ns : List MarkV} {s : ByteArray} (h : ¬ srcIn s ns) : getV ns s = 0 := getV_none fun x hx e => h ⟨x, hx, e⟩
/-- the pair of a source -/
def pairOf (xa xb : List MarkV) (s : ByteArray) : MarkV × MarkV := (⟨s, getV xa s⟩, ⟨s, getV xb s⟩)
theorem side_mem (xa xb : List MarkV) : AscM xa → AscM xb → ∀ p, p ∈ sideL xa xb ↔ ∃ s, (srcIn s xa ∨ srcIn s xb) ∧ p = pairOf xa xb s := by
 fun_induction sideL xa xb with
 | case1 => intro _ _ p; simp [srcIn]
 | case2 x xs ih =>
  intro ha hb p
  have ih := ih ha.2 hb p
  rw [List.mem_cons, ih]
  constructor
  ·rintro (rfl | ⟨s, hs, rfl⟩)
   ·exact ⟨x.a0, .inl (srcIn_cons.2 (.inl rfl)), by simp [pairOf, getV]⟩
   ·have hs' : srcIn s xs := hs.resolve_right (by simp [srcIn])
    have hl := srcIn_above ha.1 hs'
    exact ⟨s, .inl (srcIn_cons.2 (.inr hs')), by simp [pairOf, getV_tail (less_ne hl)]⟩
  ·rintro ⟨s, hs, rfl⟩
   have hs' := hs.resolve_right (by simp [srcIn])
   rcases srcIn_cons.1 hs' with rfl | hs'
   ·left; simp [pairOf, getV]
   ·right
    have hl := srcIn_above ha.1 hs'
    exact ⟨s, .inl hs', by simp [pairOf, getV_tail (less_ne hl)]⟩
 | case3 y ys ih =>
  intro ha hb p
  have ih := ih ha hb.2 p
  rw [List.mem_cons, ih]
  constructor
  ·rintro (rfl | ⟨s, hs, rfl⟩)
   ·exact ⟨y.a0, .inr (srcIn_cons.2 (.inl rfl)), by simp [pairOf, getV]⟩
   ·have hs' : srcIn s ys := hs.resolve_left (by simp [srcIn])
    have hl := srcIn_above hb.1 hs'
    exact ⟨s, .inr (srcIn_cons.2 (.inr hs')), by simp [pairOf, getV_tail (less_ne hl)]⟩
  ·rintro ⟨s, hs, rfl⟩
   have hs' := hs.resolve_left (by simp [srcIn])
   rcases srcIn_cons.1 hs' with rfl | hs'
   ·left; simp [pairOf, getV]
   ·right
    have hl := srcIn_above hb.1 hs'
    exact ⟨s, .inr hs', by simp [pairOf, getV_tail (less_ne hl)]⟩
 | case4 x xs y ys hl ih =>
  intro ha hb p
  have ih := ih ha.2 hb p
  have key : ∀ s, srcIn s xs ∨ srcIn s (y :: ys) → lessS x.a0 s = true := by
   rintro s (hs | hs)
   ·exact srcIn_above ha.1 hs
   ·rcases srcIn_cons.1 hs with rfl | hs
    ·exact hl
    ·exact less_trans hl (srcIn_above hb.1 hs)
  have hx0 : getV (y :: ys) x.a0 = 0 := getV_not fun h => by have := key _ (.inr h); rw [less_irrefl] at this; cases this
  rw [List.mem_cons, ih]
  constructor
  ·rintro (rfl | ⟨s, hs, rfl⟩)
   ·exact ⟨x.a0, .inl (srcIn_cons.2 (.inl rfl)), by simp only [pairOf, hx0]; simp [getV]⟩
   ·exact ⟨s, hs.elim (fun h => .inl (srcIn_cons.2 (.inr h))) .inr, by simp only [pairOf, getV_tail (less_ne (key s hs))]⟩
  ·rintro ⟨s, hs, rfl⟩
   by_cases e : x.a0 = s
   ·subst e
    left; simp only [pairOf, hx0]; simp [getV]
   ·right
    have hs' : srcIn s xs ∨ srcIn s (y :: ys) := hs.elim (fun h => .inl ((srcIn_cons.1 h).resolve_left e)) .inr
    exact ⟨s, hs', by simp only [pairOf, getV_tail e]⟩
 | case5 x xs y ys hl hr ih =>
  intro ha hb p
  have ih := ih ha hb.2 p
  have key : ∀ s, srcIn s (x :: xs) ∨ srcIn s ys → lessS y.a0 s = true := by
   rintro s (hs | hs)
   ·rcases srcIn_cons.1 hs with rfl | hs
    ·exact hr
    ·exact less_trans hr (srcIn_above ha.1 hs)
   ·exact srcIn_above hb.1 hs
  have hx0 : getV (x :: xs) y.a0 = 0 := getV_not fun h => by have := key _ (.inl h); rw [less_irrefl] at this; cases this
  rw [List.mem_cons, ih]
  constructor
  ·rintro (rfl | ⟨s, hs, rfl⟩)
   ·exact ⟨y.a0, .inr (srcIn_cons.2 (.inl rfl)), by simp only [pairOf, hx0]; simp [getV]⟩
   ·exact ⟨s, hs.elim .inl (fun h => .inr (srcIn_cons.2 (.inr h))), by simp only [pairOf, getV_tail (less_ne (key s hs))]⟩
  ·rintro ⟨s, hs, rfl⟩
   by_cases e : y.a0 = s
   ·subst e
    left; simp only [pairOf, hx0]; simp [getV]
   ·right
    have hs' : srcIn s (x :: xs) ∨ srcIn s ys := hs.elim .inl (fun h => .inr ((srcIn_cons.1 h).resolve_left e))
    exact ⟨s, hs', by simp only [pairOf, getV_tail e]⟩
 | case6 x xs y ys hl hr ih =>
  intro ha hb p
  have ih := ih ha.2 hb.2 p
  have exy : x.a0 = y.a0 := less_tri (by simpa using hl) (by simpa using hr)
  have key : ∀ s, srcIn s xs ∨ srcIn s ys → lessS x.a0 s = true := by
   rintro s (hs | hs)
   ·exact srcIn_above ha.1 hs
   ·rw [exy]; exact srcIn_above hb.1 hs
  have hpair : pairOf (x :: xs) (y :: ys) x.a0 = (x, y) := by
   obtain ⟨x0, x1⟩ := x
   obtain ⟨y0, y1⟩ := y
   simp only at exy
   subst exy
   simp [pairOf, getV]
  rw [List.mem_cons, ih]
  constructor
  ·rintro (rfl | ⟨s, hs, rfl⟩)
   ·exact ⟨x.a0, .inl (srcIn_cons.2 (.inl rfl)), hpair.symm⟩
   ·have hk := key s hs
    have hk2 := hk
    rw [exy] at hk2
    exact ⟨s, hs.elim (fun h => .inl (srcIn_cons.2 (.inr h))) (fun h => .inr (srcIn_cons.2 (.inr h))), by simp only [pairOf, getV_tail (less_ne hk), getV_tail (less_ne hk2)]⟩
  ·rintro ⟨s, hs, rfl⟩
   by_cases e : x.a0 = s
   ·subst e
    left
    exact hpair
   ·right
    have e2 : y.a0 ≠ s := fun h => e (exy.trans h)
    have hs' : srcIn s xs ∨ srcIn s ys := hs.elim (fun h => .inl ((srcIn_cons.1 h).resolve_left e)) (fun h => .inr ((srcIn_cons.1 h).resolve_left e2))
    exact ⟨s, hs', by simp only [pairOf, getV_tail e, getV_tail e2]⟩
end Go.Proofs.YtknkdbfgfcgkiaaGreatDoor
