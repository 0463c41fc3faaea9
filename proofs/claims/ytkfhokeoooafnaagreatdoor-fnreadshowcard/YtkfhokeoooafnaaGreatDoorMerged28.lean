/-
  The program's type switch over its forms: what each assertion answers.
-/
/-
  strconv.Itoa by the shelf's contract, at every number; the table that it reads.
-/
/-
  The program's bareText, form by form.
-/
import Derived.Test.YtkfhokeoooafnaaGreatDoorMerged27
import Derived.Test.YtkfhokeoooafnaaGreatDoorMerged12
import Derived.Lib.LaidTab
import Derived.WalkSmall
namespace Go.Proofs.YtkfhokeoooafnaaGreatDoor
open Go.RowKit Go.Maps Go.Deep

theorem as_num_num (u : Value) (w : World) : (Instr.typeAssert (.iface 74 u) 39 74 true).run Tryz.prog w = .ok (.tuple #[u, .bool true]) w := by kernel_rfl
theorem as_num_name (u : Value) (w : World) : (Instr.typeAssert (.iface 77 u) 39 74 true).run Tryz.prog w = .ok (.tuple #[.agg #[.int .i64 0], .bool false]) w := by kernel_rfl
theorem as_name_name (u : Value) (w : World) : (Instr.typeAssert (.iface 77 u) 39 77 true).run Tryz.prog w = .ok (.tuple #[u, .bool true]) w := by kernel_rfl
theorem as_num_ahead (u : Value) (w : World) : (Instr.typeAssert (.iface 79 u) 39 74 true).run Tryz.prog w = .ok (.tuple #[.agg #[.int .i64 0], .bool false]) w := by kernel_rfl
theorem as_name_ahead (u : Value) (w : World) : (Instr.typeAssert (.iface 79 u) 39 77 true).run Tryz.prog w = .ok (.tuple #[.agg #[.string ⟨#[]⟩], .bool false]) w := by kernel_rfl
theorem as_ahead_ahead (u : Value) (w : World) : (Instr.typeAssert (.iface 79 u) 39 79 true).run Tryz.prog w = .ok (.tuple #[u, .bool true]) w := by kernel_rfl
theorem as_num_sign (u : Value) (w : World) : (Instr.typeAssert (.iface 82 u) 39 74 true).run Tryz.prog w = .ok (.tuple #[.agg #[.int .i64 0], .bool false]) w := by kernel_rfl
theorem as_name_sign (u : Value) (w : World) : (Instr.typeAssert (.iface 82 u) 39 77 true).run Tryz.prog w = .ok (.tuple #[.agg #[.string ⟨#[]⟩], .bool false]) w := by kernel_rfl
theorem as_ahead_sign (u : Value) (w : World) : (Instr.typeAssert (.iface 82 u) 39 79 true).run Tryz.prog w = .ok (.tuple #[.agg #[.int .i64 0, .nilIface], .bool false]) w := by kernel_rfl
theorem as_sign_sign (u : Value) (w : World) : (Instr.typeAssert (.iface 82 u) 39 82 true).run Tryz.prog w = .ok (.tuple #[u, .bool true]) w := by kernel_rfl
theorem as_num_call (u : Value) (w : World) : (Instr.typeAssert (.iface 86 u) 39 74 true).run Tryz.prog w = .ok (.tuple #[.agg #[.int .i64 0], .bool false]) w := by kernel_rfl
theorem as_name_call (u : Value) (w : World) : (Instr.typeAssert (.iface 86 u) 39 77 true).run Tryz.prog w = .ok (.tuple #[.agg #[.string ⟨#[]⟩], .bool false]) w := by kernel_rfl
theorem as_ahead_call (u : Value) (w : World) : (Instr.typeAssert (.iface 86 u) 39 79 true).run Tryz.prog w = .ok (.tuple #[.agg #[.int .i64 0, .nilIface], .bool false]) w := by kernel_rfl
theorem as_sign_call (u : Value) (w : World) : (Instr.typeAssert (.iface 86 u) 39 82 true).run Tryz.prog w = .ok (.tuple #[.agg #[.int .i64 0, .nilIface, .nilIface], .bool false]) w := by kernel_rfl
theorem as_call_call (u : Value) (w : World) : (Instr.typeAssert (.iface 86 u) 39 86 true).run Tryz.prog w = .ok (.tuple #[u, .bool true]) w := by kernel_rfl
theorem as_num_if (u : Value) (w : World) : (Instr.typeAssert (.iface 89 u) 39 74 true).run Tryz.prog w = .ok (.tuple #[.agg #[.int .i64 0], .bool false]) w := by kernel_rfl
theorem as_name_if (u : Value) (w : World) : (Instr.typeAssert (.iface 89 u) 39 77 true).run Tryz.prog w = .ok (.tuple #[.agg #[.string ⟨#[]⟩], .bool false]) w := by kernel_rfl
theorem as_ahead_if (u : Value) (w : World) : (Instr.typeAssert (.iface 89 u) 39 79 true).run Tryz.prog w = .ok (.tuple #[.agg #[.int .i64 0, .nilIface], .bool false]) w := by kernel_rfl
theorem as_sign_if (u : Value) (w : World) : (Instr.typeAssert (.iface 89 u) 39 82 true).run Tryz.prog w = .ok (.tuple #[.agg #[.int .i64 0, .nilIface, .nilIface], .bool false]) w := by kernel_rfl
theorem as_call_if (u : Value) (w : World) : (Instr.typeAssert (.iface 89 u) 39 86 true).run Tryz.prog w = .ok (.tuple #[.agg #[.int .i64 0, .slice none 0 0], .bool false]) w := by kernel_rfl
theorem as_if_if (u : Value) (w : World) : (Instr.typeAssert (.iface 89 u) 39 89 true).run Tryz.prog w = .ok (.tuple #[u, .bool true]) w := by kernel_rfl
theorem as_num_let (u : Value) (w : World) : (Instr.typeAssert (.iface 91 u) 39 74 true).run Tryz.prog w = .ok (.tuple #[.agg #[.int .i64 0], .bool false]) w := by kernel_rfl
theorem as_name_let (u : Value) (w : World) : (Instr.typeAssert (.iface 91 u) 39 77 true).run Tryz.prog w = .ok (.tuple #[.agg #[.string ⟨#[]⟩], .bool false]) w := by kernel_rfl
theorem as_ahead_let (u : Value) (w : World) : (Instr.typeAssert (.iface 91 u) 39 79 true).run Tryz.prog w = .ok (.tuple #[.agg #[.int .i64 0, .nilIface], .bool false]) w := by kernel_rfl
theorem as_sign_let (u : Value) (w : World) : (Instr.typeAssert (.iface 91 u) 39 82 true).run Tryz.prog w = .ok (.tuple #[.agg #[.int .i64 0, .nilIface, .nilIface], .bool false]) w := by kernel_rfl
theorem as_call_let (u : Value) (w : World) : (Instr.typeAssert (.iface 91 u) 39 86 true).run Tryz.prog w = .ok (.tuple #[.agg #[.int .i64 0, .slice none 0 0], .bool false]) w := by kernel_rfl
theorem as_if_let (u : Value) (w : World) : (Instr.typeAssert (.iface 91 u) 39 89 true).run Tryz.prog w = .ok (.tuple #[.agg #[.nilIface, .nilIface, .nilIface], .bool false]) w := by kernel_rfl
theorem as_let_let (u : Value) (w : World) : (Instr.typeAssert (.iface 91 u) 39 91 true).run Tryz.prog w = .ok (.tuple #[u, .bool true]) w := by kernel_rfl
theorem as_num_rep (u : Value) (w : World) : (Instr.typeAssert (.iface 93 u) 39 74 true).run Tryz.prog w = .ok (.tuple #[.agg #[.int .i64 0], .bool false]) w := by kernel_rfl
theorem as_name_rep (u : Value) (w : World) : (Instr.typeAssert (.iface 93 u) 39 77 true).run Tryz.prog w = .ok (.tuple #[.agg #[.string ⟨#[]⟩], .bool false]) w := by kernel_rfl
theorem as_ahead_rep (u : Value) (w : World) : (Instr.typeAssert (.iface 93 u) 39 79 true).run Tryz.prog w = .ok (.tuple #[.agg #[.int .i64 0, .nilIface], .bool false]) w := by kernel_rfl
theorem as_sign_rep (u : Value) (w : World) : (Instr.typeAssert (.iface 93 u) 39 82 true).run Tryz.prog w = .ok (.tuple #[.agg #[.int .i64 0, .nilIface, .nilIface], .bool false]) w := by kernel_rfl
theorem as_call_rep (u : Value) (w : World) : (Instr.typeAssert (.iface 93 u) 39 86 true).run Tryz.prog w = .ok (.tuple #[.agg #[.int .i64 0, .slice none 0 0], .bool false]) w := by kernel_rfl
theorem as_if_rep (u : Value) (w : World) : (Instr.typeAssert (.iface 93 u) 39 89 true).run Tryz.prog w = .ok (.tuple #[.agg #[.nilIface, .nilIface, .nilIface], .bool false]) w := by kernel_rfl
theorem as_let_rep (u : Value) (w : World) : (Instr.typeAssert (.iface 93 u) 39 91 true).run Tryz.prog w = .ok (.tuple #[.agg #[.string ⟨#[]⟩, .nilIface, .nilIface], .bool false]) w := by kernel_rfl
theorem as_rep_rep (u : Value) (w : World) : (Instr.typeAssert (.iface 93 u) 39 93 true).run Tryz.prog w = .ok (.tuple #[u, .bool true]) w := by kernel_rfl

end Go.Proofs.YtkfhokeoooafnaaGreatDoor

set_option linter.unusedVariables false
namespace Go.Proofs.YtkfhokeoooafnaaGreatDoor
open Go.RowKit Go.Maps

theorem below_grown_dn (B : Nat) (w : World) (q : Nat) (os : Array Obj) (hB : B ≤ w.heap.size) : Below B w (Sort.grow (w.drewN q) os) := by
  refine ⟨rfl, rfl, rfl, ?_, fun i hi => ?_⟩
  · simp [Sort.grow]
  · have h : i < (w.drewN q).heap.size := Nat.lt_of_lt_of_le hi hB
    simp only [Sort.grow, Array.getElem?_append_left h]
    rfl
theorem gPow : Tryz.prog.globalNamed "internal/strconv.uint64pow10" = some 2 := by kernel_rfl
theorem lt_of_cellP {w : World} {b off : Nat} {v : Value} (h : w.cell? ⟨b, off, none⟩ = some v) : b < w.heap.size := by
  by_cases hb : b < w.heap.size
  · exact hb
  · exfalso
    have : w.heap[b]? = none := Array.getElem?_eq_none (by omega)
    simp [World.cell?, this] at h
theorem tab_below {w w' : World} {B : Nat} (h : Lib.TabIs Tryz.prog w "internal/strconv.uint64pow10" .u64 Lib.pow10Tab) (hb : Below B w w') (hB : w.heap.size ≤ B) : Lib.TabIs Tryz.prog w' "internal/strconv.uint64pow10" .u64 Lib.pow10Tab := by
  have hc := Lib.TabIs.cell h gPow 0 (by decide)
  have hl := lt_of_cellP hc
  exact var?_below hb gPow (Nat.lt_of_lt_of_le hl hB) h
def PowIn (w : World) : Prop := Lib.TabIs Tryz.prog w "internal/strconv.uint64pow10" .u64 Lib.pow10Tab
theorem PowIn.below {w w' : World} {B : Nat} (h : PowIn w) (hb : Below B w w') (hB : w.heap.size ≤ B) : PowIn w' := tab_below h hb hB
theorem itoa_any (n : Int) (h0 : -9223372036854775808 ≤ n) (h1 : n ≤ 9223372036854775807) (w : World) (h : PowIn w) : Calls Tryz.prog 36 #[.int .i64 n] w fun e w' => e = .returned (.string (itoaB n)) ∧ Below w.heap.size w w' := by
  refine (Tryz.strconv_Itoa n h0 h1 w h).mono ?_
  rintro e w' ⟨rfl, kk, os, rfl⟩
  exact ⟨rfl, below_grown_dn _ _ _ _ (Nat.le_refl _)⟩

end Go.Proofs.YtkfhokeoooafnaaGreatDoor

namespace Go.Proofs.YtkfhokeoooafnaaGreatDoor
open Go.RowKit Go.Maps Go.Deep
set_option linter.unusedVariables false

set_option maxRecDepth 100000 in
set_option maxHeartbeats 1600000 in
theorem ahead_text (k : Int) (hk : k = 3 ∨ k = 4) (t0 : TypeId) (u0 : Value) (w : World) (T : ByteArray) (hT : (T.size : Int) ≤ 24002) (hY : ∀ W, Below w.heap.size w W → TextAtSaid W (.iface t0 u0) 6 T) :
    Calls Tryz.prog 37 #[.agg #[.int .i64 k, .iface t0 u0]] w fun e w' => e = .returned (.string ((if k = 3 then ⟨#[45]⟩ else ⟨#[110, 111, 116, 32]⟩) ++ T)) ∧ Below w.heap.size w w' := by
  have HY := hide (hY _ ((Below.refl w.heap.size w).alloc (Nat.le_refl _) (.cells #[.int .i64 k, .iface t0 u0] 79)))
  clear hY
  rcases hk with rfl | rfl
  all_goals
    go_enter Tryz.func37, Tryz.ntmps37
    go_wp2_with (first
      | (go_at_call 62; refine (unhide HY _ (Below.refl _ _)).mono ?_; rintro e w2 ⟨rfl, hb2⟩))
    go_ret
    exact ⟨rfl, ((Below.refl _ _).alloc (Nat.le_refl _) _).trans (hb2.mono (by simp))⟩

set_option maxRecDepth 100000 in
set_option maxHeartbeats 3200000 in
theorem bt_name (s : ByteArray) (w : World) : Calls Tryz.prog 17 #[.iface 77 (.agg #[.string s])] w fun e w' => e = .returned (.string s) ∧ Below w.heap.size w w' := by
  have q0 := as_num_name (.agg #[.string s])
  have q1 := as_name_name (.agg #[.string s])
  go_enter Tryz.func17, Tryz.ntmps17
  go_wp2_with fail
  go_ret
  exact ⟨rfl, (Below.refl _ _).alloc (Nat.le_refl _) _⟩
set_option maxRecDepth 100000 in
set_option maxHeartbeats 3200000 in
theorem bt_num (n : Int) (h0 : 0 ≤ n) (h1 : n ≤ 999999999999999999) (w : World) (htab : Lib.TabIs Tryz.prog w "internal/strconv.uint64pow10" .u64 Lib.pow10Tab) : Calls Tryz.prog 17 #[.iface 74 (.agg #[.int .i64 n])] w fun e w' => e = .returned (.string (decN n)) ∧ Below w.heap.size w w' := by
  have HT := hide (tab_below htab ((Below.refl w.heap.size w).alloc (Nat.le_refl _) (.cells #[.int .i64 n] 74)) (Nat.le_refl _))
  have HI := hide (show (⟨(Lib.itoa n).toArray⟩ : ByteArray) = decN n by unfold Lib.itoa decN; rw [if_neg (by omega)])
  clear htab
  have q0 := as_num_num (.agg #[.int .i64 n])
  go_enter Tryz.func17, Tryz.ntmps17
  go_wp2_with (first
    | (go_at_call 36; refine (Tryz.strconv_Itoa n (by omega) (by omega) _ (unhide HT)).mono ?_; rintro e w2 ⟨rfl, kk, os, rfl⟩))
  go_ret
  exact ⟨by rw [← unhide HI]; rfl, ((Below.refl _ _).alloc (Nat.le_refl _) _).trans (below_grown_dn _ _ _ _ (by simp))⟩
set_option maxRecDepth 100000 in
set_option maxHeartbeats 3200000 in
theorem bt_ahead (k : Int) (hk : k = 3 ∨ k = 4) (t0 : TypeId) (u0 : Value) (w : World) (T : ByteArray) (hT : (T.size : Int) ≤ 24002) (hY : ∀ W, Below w.heap.size w W → TextAtSaid W (.iface t0 u0) 6 T) :
    Calls Tryz.prog 17 #[.iface 79 (.agg #[.int .i64 k, .iface t0 u0])] w fun e w' => e = .returned (.string ((if k = 3 then ⟨#[45]⟩ else ⟨#[110, 111, 116, 32]⟩) ++ T)) ∧ Below w.heap.size w w' := by
  have HY := hide (ahead_text k hk t0 u0 (w.alloc (.cells #[.int .i64 k, .iface t0 u0] 79)) T hT (fun W hW => hY W (((Below.refl w.heap.size w).alloc (Nat.le_refl _) _).trans (hW.mono (by simp)))))
  generalize ((if k = 3 then ⟨#[45]⟩ else ⟨#[110, 111, 116, 32]⟩) ++ T : ByteArray) = R at *
  clear hY hk hT
  have q0 := as_num_ahead (.agg #[.int .i64 k, .iface t0 u0])
  have q1 := as_name_ahead (.agg #[.int .i64 k, .iface t0 u0])
  have q2 := as_ahead_ahead (.agg #[.int .i64 k, .iface t0 u0])
  go_enter Tryz.func17, Tryz.ntmps17
  go_wp2_with (first
    | (go_at_call 37; refine (unhide HY).mono ?_; rintro e w2 ⟨rfl, hb2⟩))
  go_ret
  exact ⟨rfl, ((Below.refl _ _).alloc (Nat.le_refl _) _).trans (hb2.mono (by simp))⟩
set_option maxRecDepth 100000 in
set_option maxHeartbeats 3200000 in
theorem bt_if (t0 t1 t2 : TypeId) (u0 u1 u2 : Value) (w : World) (T : ByteArray) (U : ByteArray) (V : ByteArray)  (hT : (T.size : Int) ≤ 24002) (hU : (U.size : Int) ≤ 24002) (hV : (V.size : Int) ≤ 24002) (hY : ∀ W, Below w.heap.size w W → TextSaid W (.iface t0 u0) T) (hZ : ∀ W, Below w.heap.size w W → TextSaid W (.iface t1 u1) U) (hX : ∀ W, Below w.heap.size w W → TextSaid W (.iface t2 u2) V) :
    Calls Tryz.prog 17 #[.iface 89 (.agg #[.iface t0 u0, .iface t1 u1, .iface t2 u2])] w fun e w' => e = .returned (.string (⟨#[105, 102, 32]⟩ ++ T ++ ⟨#[32, 116, 104, 101, 110, 32]⟩ ++ U ++ ⟨#[32, 101, 108, 115, 101, 32]⟩ ++ V)) ∧ Below w.heap.size w w' := by
  have ha0 : ¬ 9223372036854775807 < 3 + T.size := by omega
  have ha1 : ¬ 9223372036854775807 < 3 + T.size + 6 := by omega
  have ha2 : ¬ 9223372036854775807 < 3 + T.size + 6 + U.size := by omega
  have ha3 : ¬ 9223372036854775807 < 3 + T.size + 6 + U.size + 6 := by omega
  have ha4 : ¬ 9223372036854775807 < 3 + T.size + 6 + U.size + 6 + V.size := by omega
  have q0 := as_num_if (.agg #[.iface t0 u0, .iface t1 u1, .iface t2 u2])
  have q1 := as_name_if (.agg #[.iface t0 u0, .iface t1 u1, .iface t2 u2])
  have q2 := as_ahead_if (.agg #[.iface t0 u0, .iface t1 u1, .iface t2 u2])
  have q3 := as_sign_if (.agg #[.iface t0 u0, .iface t1 u1, .iface t2 u2])
  have q4 := as_call_if (.agg #[.iface t0 u0, .iface t1 u1, .iface t2 u2])
  have q5 := as_if_if (.agg #[.iface t0 u0, .iface t1 u1, .iface t2 u2])
  go_enter Tryz.func17, Tryz.ntmps17
  go_wp2_with fail
  generalize hW1 : w.alloc (.cells #[.iface t0 u0, .iface t1 u1, .iface t2 u2] 89) = W1
  have hnb : w.heap.size < W1.heap.size := by subst hW1; simp
  have hbw : Below w.heap.size w W1 := by subst hW1; exact (Below.refl _ _).alloc (Nat.le_refl _) _
  have d0 : W1.cell? ⟨w.heap.size, 0, none⟩ = some (.iface t0 u0) := by subst hW1; exact World.cell?_alloc_at _ _ _ _ rfl
  have d1 : W1.cell? ⟨w.heap.size, 1, none⟩ = some (.iface t1 u1) := by subst hW1; exact World.cell?_alloc_at _ _ _ _ rfl
  have d2 : W1.cell? ⟨w.heap.size, 2, none⟩ = some (.iface t2 u2) := by subst hW1; exact World.cell?_alloc_at _ _ _ _ rfl
  have HY := hide (hY W1 hbw)
  have HZ := hide (hZ W1 hbw)
  have HX := hide (hX W1 hbw)
  have HBW := hide (And.intro hbw (Nat.le_of_lt hnb))
  clear hY hZ hX hW1 hbw
  generalize w.heap.size = nb at hnb d0 d1 d2 ⊢
  have KEEP : ∀ w', Below W1.heap.size W1 w' → (w'.cell? ⟨nb, 0, none⟩ = some (.iface t0 u0) ∧ w'.cell? ⟨nb, 1, none⟩ = some (.iface t1 u1) ∧ w'.cell? ⟨nb, 2, none⟩ = some (.iface t2 u2)) ∧ Below W1.heap.size W1 w' := fun w' h => ⟨⟨(h.cell hnb).trans d0, (h.cell hnb).trans d1, (h.cell hnb).trans d2⟩, h⟩
  go_region_held3 (fun w' => (w'.cell? ⟨nb, 0, none⟩ = some (.iface t0 u0) ∧ w'.cell? ⟨nb, 1, none⟩ = some (.iface t1 u1) ∧ w'.cell? ⟨nb, 2, none⟩ = some (.iface t2 u2)) ∧ Below W1.heap.size W1 w') ((refine KEEP _ ?_; first | assumption | exact below_dn (Below.refl _ _) 1))
    (first
      | (go_at_call 17; have := m1; refine (unhide HX _ (And.right (by assumption))).mono ?_; rintro e w4 ⟨rfl, hb4⟩; have m2 := True.intro)
      | (go_at_call 17; have := m0; refine (unhide HZ _ (And.right (by assumption))).mono ?_; rintro e w3 ⟨rfl, hb3⟩; have m1 := True.intro)
      | (go_at_call 17; refine (unhide HY _ (And.right (by assumption))).mono ?_; rintro e w2 ⟨rfl, hb2⟩; have m0 := True.intro))
  go_wp2_with fail
  go_ret
  exact ⟨rfl, (unhide HBW).1.trans (hb4.mono (unhide HBW).2)⟩
set_option maxRecDepth 100000 in
set_option maxHeartbeats 3200000 in
theorem bt_let (s : ByteArray) (t0 t1 : TypeId) (u0 u1 : Value) (w : World) (T : ByteArray) (U : ByteArray) (hs : (s.size : Int) ≤ 16) (hT : (T.size : Int) ≤ 24002) (hU : (U.size : Int) ≤ 24002) (hY : ∀ W, Below w.heap.size w W → TextSaid W (.iface t0 u0) T) (hZ : ∀ W, Below w.heap.size w W → TextSaid W (.iface t1 u1) U) :
    Calls Tryz.prog 17 #[.iface 91 (.agg #[.string s, .iface t0 u0, .iface t1 u1])] w fun e w' => e = .returned (.string (⟨#[108, 101, 116, 32]⟩ ++ s ++ ⟨#[32, 61, 32]⟩ ++ T ++ ⟨#[32, 105, 110, 32]⟩ ++ U)) ∧ Below w.heap.size w w' := by
  have ha0 : ¬ 9223372036854775807 < 4 + s.size := by omega
  have ha1 : ¬ 9223372036854775807 < 4 + s.size + 3 := by omega
  have ha2 : ¬ 9223372036854775807 < 4 + s.size + 3 + T.size := by omega
  have ha3 : ¬ 9223372036854775807 < 4 + s.size + 3 + T.size + 4 := by omega
  have ha4 : ¬ 9223372036854775807 < 4 + s.size + 3 + T.size + 4 + U.size := by omega
  have q0 := as_num_let (.agg #[.string s, .iface t0 u0, .iface t1 u1])
  have q1 := as_name_let (.agg #[.string s, .iface t0 u0, .iface t1 u1])
  have q2 := as_ahead_let (.agg #[.string s, .iface t0 u0, .iface t1 u1])
  have q3 := as_sign_let (.agg #[.string s, .iface t0 u0, .iface t1 u1])
  have q4 := as_call_let (.agg #[.string s, .iface t0 u0, .iface t1 u1])
  have q5 := as_if_let (.agg #[.string s, .iface t0 u0, .iface t1 u1])
  have q6 := as_let_let (.agg #[.string s, .iface t0 u0, .iface t1 u1])
  go_enter Tryz.func17, Tryz.ntmps17
  go_wp2_with fail
  generalize hW1 : w.alloc (.cells #[.string s, .iface t0 u0, .iface t1 u1] 91) = W1
  have hnb : w.heap.size < W1.heap.size := by subst hW1; simp
  have hbw : Below w.heap.size w W1 := by subst hW1; exact (Below.refl _ _).alloc (Nat.le_refl _) _
  have d0 : W1.cell? ⟨w.heap.size, 0, none⟩ = some (.string s) := by subst hW1; exact World.cell?_alloc_at _ _ _ _ rfl
  have d1 : W1.cell? ⟨w.heap.size, 1, none⟩ = some (.iface t0 u0) := by subst hW1; exact World.cell?_alloc_at _ _ _ _ rfl
  have d2 : W1.cell? ⟨w.heap.size, 2, none⟩ = some (.iface t1 u1) := by subst hW1; exact World.cell?_alloc_at _ _ _ _ rfl
  have HY := hide (hY W1 hbw)
  have HZ := hide (hZ W1 hbw)
  have HBW := hide (And.intro hbw (Nat.le_of_lt hnb))
  clear hY hZ hW1 hbw
  generalize w.heap.size = nb at hnb d0 d1 d2 ⊢
  have KEEP : ∀ w', Below W1.heap.size W1 w' → (w'.cell? ⟨nb, 0, none⟩ = some (.string s) ∧ w'.cell? ⟨nb, 1, none⟩ = some (.iface t0 u0) ∧ w'.cell? ⟨nb, 2, none⟩ = some (.iface t1 u1)) ∧ Below W1.heap.size W1 w' := fun w' h => ⟨⟨(h.cell hnb).trans d0, (h.cell hnb).trans d1, (h.cell hnb).trans d2⟩, h⟩
  go_region_held3 (fun w' => (w'.cell? ⟨nb, 0, none⟩ = some (.string s) ∧ w'.cell? ⟨nb, 1, none⟩ = some (.iface t0 u0) ∧ w'.cell? ⟨nb, 2, none⟩ = some (.iface t1 u1)) ∧ Below W1.heap.size W1 w') ((refine KEEP _ ?_; first | assumption | exact below_dn (Below.refl _ _) 1))
    (first
      | (go_at_call 17; have := m0; refine (unhide HZ _ (And.right (by assumption))).mono ?_; rintro e w3 ⟨rfl, hb3⟩; have m1 := True.intro)
      | (go_at_call 17; refine (unhide HY _ (And.right (by assumption))).mono ?_; rintro e w2 ⟨rfl, hb2⟩; have m0 := True.intro))
  go_wp2_with fail
  go_ret
  exact ⟨rfl, (unhide HBW).1.trans (hb3.mono (unhide HBW).2)⟩
set_option maxRecDepth 100000 in
set_option maxHeartbeats 3200000 in
theorem bt_rep (s : ByteArray) (t0 t1 t2 : TypeId) (u0 u1 u2 : Value) (w : World) (T : ByteArray) (U : ByteArray) (V : ByteArray) (hs : (s.size : Int) ≤ 16) (hT : (T.size : Int) ≤ 24002) (hU : (U.size : Int) ≤ 24002) (hV : (V.size : Int) ≤ 24002) (hY : ∀ W, Below w.heap.size w W → TextSaid W (.iface t0 u0) T) (hZ : ∀ W, Below w.heap.size w W → TextSaid W (.iface t1 u1) U) (hX : ∀ W, Below w.heap.size w W → TextSaid W (.iface t2 u2) V) :
    Calls Tryz.prog 17 #[.iface 93 (.agg #[.string s, .iface t0 u0, .iface t1 u1, .iface t2 u2])] w fun e w' => e = .returned (.string (⟨#[114, 101, 112, 32]⟩ ++ T ++ ⟨#[32, 97, 115, 32]⟩ ++ s ++ ⟨#[32, 102, 114, 111, 109, 32]⟩ ++ U ++ ⟨#[32, 98, 121, 32]⟩ ++ V)) ∧ Below w.heap.size w w' := by
  have ha0 : ¬ 9223372036854775807 < 4 + T.size := by omega
  have ha1 : ¬ 9223372036854775807 < 4 + T.size + 4 := by omega
  have ha2 : ¬ 9223372036854775807 < 4 + T.size + 4 + s.size := by omega
  have ha3 : ¬ 9223372036854775807 < 4 + T.size + 4 + s.size + 6 := by omega
  have ha4 : ¬ 9223372036854775807 < 4 + T.size + 4 + s.size + 6 + U.size := by omega
  have ha5 : ¬ 9223372036854775807 < 4 + T.size + 4 + s.size + 6 + U.size + 4 := by omega
  have ha6 : ¬ 9223372036854775807 < 4 + T.size + 4 + s.size + 6 + U.size + 4 + V.size := by omega
  have q0 := as_num_rep (.agg #[.string s, .iface t0 u0, .iface t1 u1, .iface t2 u2])
  have q1 := as_name_rep (.agg #[.string s, .iface t0 u0, .iface t1 u1, .iface t2 u2])
  have q2 := as_ahead_rep (.agg #[.string s, .iface t0 u0, .iface t1 u1, .iface t2 u2])
  have q3 := as_sign_rep (.agg #[.string s, .iface t0 u0, .iface t1 u1, .iface t2 u2])
  have q4 := as_call_rep (.agg #[.string s, .iface t0 u0, .iface t1 u1, .iface t2 u2])
  have q5 := as_if_rep (.agg #[.string s, .iface t0 u0, .iface t1 u1, .iface t2 u2])
  have q6 := as_let_rep (.agg #[.string s, .iface t0 u0, .iface t1 u1, .iface t2 u2])
  have q7 := as_rep_rep (.agg #[.string s, .iface t0 u0, .iface t1 u1, .iface t2 u2])
  go_enter Tryz.func17, Tryz.ntmps17
  go_wp2_with fail
  generalize hW1 : w.alloc (.cells #[.string s, .iface t0 u0, .iface t1 u1, .iface t2 u2] 93) = W1
  have hnb : w.heap.size < W1.heap.size := by subst hW1; simp
  have hbw : Below w.heap.size w W1 := by subst hW1; exact (Below.refl _ _).alloc (Nat.le_refl _) _
  have d0 : W1.cell? ⟨w.heap.size, 0, none⟩ = some (.string s) := by subst hW1; exact World.cell?_alloc_at _ _ _ _ rfl
  have d1 : W1.cell? ⟨w.heap.size, 1, none⟩ = some (.iface t0 u0) := by subst hW1; exact World.cell?_alloc_at _ _ _ _ rfl
  have d2 : W1.cell? ⟨w.heap.size, 2, none⟩ = some (.iface t1 u1) := by subst hW1; exact World.cell?_alloc_at _ _ _ _ rfl
  have d3 : W1.cell? ⟨w.heap.size, 3, none⟩ = some (.iface t2 u2) := by subst hW1; exact World.cell?_alloc_at _ _ _ _ rfl
  have HY := hide (hY W1 hbw)
  have HZ := hide (hZ W1 hbw)
  have HX := hide (hX W1 hbw)
  have HBW := hide (And.intro hbw (Nat.le_of_lt hnb))
  clear hY hZ hX hW1 hbw
  generalize w.heap.size = nb at hnb d0 d1 d2 d3 ⊢
  have KEEP : ∀ w', Below W1.heap.size W1 w' → (w'.cell? ⟨nb, 0, none⟩ = some (.string s) ∧ w'.cell? ⟨nb, 1, none⟩ = some (.iface t0 u0) ∧ w'.cell? ⟨nb, 2, none⟩ = some (.iface t1 u1) ∧ w'.cell? ⟨nb, 3, none⟩ = some (.iface t2 u2)) ∧ Below W1.heap.size W1 w' := fun w' h => ⟨⟨(h.cell hnb).trans d0, (h.cell hnb).trans d1, (h.cell hnb).trans d2, (h.cell hnb).trans d3⟩, h⟩
  go_region_held3 (fun w' => (w'.cell? ⟨nb, 0, none⟩ = some (.string s) ∧ w'.cell? ⟨nb, 1, none⟩ = some (.iface t0 u0) ∧ w'.cell? ⟨nb, 2, none⟩ = some (.iface t1 u1) ∧ w'.cell? ⟨nb, 3, none⟩ = some (.iface t2 u2)) ∧ Below W1.heap.size W1 w') ((refine KEEP _ ?_; first | assumption | exact below_dn (Below.refl _ _) 1))
    (first
      | (go_at_call 17; have := m1; refine (unhide HX _ (And.right (by assumption))).mono ?_; rintro e w4 ⟨rfl, hb4⟩; have m2 := True.intro)
      | (go_at_call 17; have := m0; refine (unhide HZ _ (And.right (by assumption))).mono ?_; rintro e w3 ⟨rfl, hb3⟩; have m1 := True.intro)
      | (go_at_call 17; refine (unhide HY _ (And.right (by assumption))).mono ?_; rintro e w2 ⟨rfl, hb2⟩; have m0 := True.intro))
  go_wp2_with fail
  go_ret
  exact ⟨rfl, (unhide HBW).1.trans (hb4.mono (unhide HBW).2)⟩

end Go.Proofs.YtkfhokeoooafnaaGreatDoor
