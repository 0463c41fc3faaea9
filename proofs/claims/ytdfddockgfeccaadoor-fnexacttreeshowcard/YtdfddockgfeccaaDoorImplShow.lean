/-
  The program's text of a form: bareText, textAt and what they call write what 'bareT' says.
-/
import Derived.Test.YtdfddockgfeccaaDoorSpecShowTwo
import Derived.Test.YtdfddockgfeccaaDoorFormDeep
import Derived.Test.YtdfddockgfeccaaDoorShelfA
import Derived.Deep.RegionHeld3
namespace Go.Proofs.YtdfddockgfeccaaDoor
open Go.RowKit Go.Maps Go.Deep
set_option linter.unusedVariables false

/-- a node comes back, of this kind -/
def RetKind (k : Int) (e : Ending) : Prop := ∃ a b c, e = .returned (.agg #[.int .i64 k, .int .i64 a, .string b, .int .i64 c])

theorem node_num (n : Int) (w : World) : Calls Tryd.prog 118 #[.agg #[.int .i64 n]] w fun e w' => RetKind 1 e ∧ Below w.heap.size w w' := by
  go_enter Tryd.func118, Tryd.ntmps118
  go_wp2
  exact bodyPost_ret (v := .agg #[.int .i64 1, .int .i64 n, .string ⟨#[]⟩, .int .i64 0]) (by simp [results, Tryd.results118, go_sem]) rfl ⟨⟨_, _, _, rfl⟩, by first | exact ((Below.refl _ _).alloc (Nat.le_refl _) _).alloc (by simp) _ | exact (((Below.refl _ _).alloc (Nat.le_refl _) _).alloc (by simp) _).alloc (by simp; omega) _⟩
theorem node_name (s : ByteArray) (w : World) : Calls Tryd.prog 120 #[.agg #[.string s]] w fun e w' => RetKind 2 e ∧ Below w.heap.size w w' := by
  go_enter Tryd.func120, Tryd.ntmps120
  go_wp2
  exact bodyPost_ret (v := .agg #[.int .i64 2, .int .i64 0, .string s, .int .i64 0]) (by simp [results, Tryd.results120, go_sem]) rfl ⟨⟨_, _, _, rfl⟩, by first | exact ((Below.refl _ _).alloc (Nat.le_refl _) _).alloc (by simp) _ | exact (((Below.refl _ _).alloc (Nat.le_refl _) _).alloc (by simp) _).alloc (by simp; omega) _⟩
theorem node_ahead (k : Int) (t0 : TypeId) (u0 : Value) (w : World) : Calls Tryd.prog 122 #[.agg #[.int .i64 k, .iface t0 u0]] w fun e w' => RetKind k e ∧ Below w.heap.size w w' := by
  go_enter Tryd.func122, Tryd.ntmps122
  go_wp2
  exact bodyPost_ret (v := .agg #[.int .i64 k, .int .i64 0, .string ⟨#[]⟩, .int .i64 1]) (by simp [results, Tryd.results122, go_sem]) rfl ⟨⟨_, _, _, rfl⟩, by first | exact ((Below.refl _ _).alloc (Nat.le_refl _) _).alloc (by simp) _ | exact (((Below.refl _ _).alloc (Nat.le_refl _) _).alloc (by simp) _).alloc (by simp; omega) _⟩
theorem node_sign (k : Int) (t0 t1 : TypeId) (u0 u1 : Value) (w : World) : Calls Tryd.prog 124 #[.agg #[.int .i64 k, .iface t0 u0, .iface t1 u1]] w fun e w' => RetKind k e ∧ Below w.heap.size w w' := by
  go_enter Tryd.func124, Tryd.ntmps124
  go_wp2
  exact bodyPost_ret (v := .agg #[.int .i64 k, .int .i64 0, .string ⟨#[]⟩, .int .i64 2]) (by simp [results, Tryd.results124, go_sem]) rfl ⟨⟨_, _, _, rfl⟩, by first | exact ((Below.refl _ _).alloc (Nat.le_refl _) _).alloc (by simp) _ | exact (((Below.refl _ _).alloc (Nat.le_refl _) _).alloc (by simp) _).alloc (by simp; omega) _⟩
theorem node_call (k : Int) (a : Option Addr) (n cap : Nat) (w : World) : Calls Tryd.prog 126 #[.agg #[.int .i64 k, .slice a n cap]] w fun e w' => RetKind k e ∧ Below w.heap.size w w' := by
  go_enter Tryd.func126, Tryd.ntmps126
  go_wp2
  exact bodyPost_ret (v := .agg #[.int .i64 k, .int .i64 0, .string ⟨#[]⟩, .int .i64 n]) (by simp [results, Tryd.results126, go_sem]) rfl ⟨⟨_, _, _, rfl⟩, by first | exact ((Below.refl _ _).alloc (Nat.le_refl _) _).alloc (by simp) _ | exact (((Below.refl _ _).alloc (Nat.le_refl _) _).alloc (by simp) _).alloc (by simp; omega) _⟩
theorem node_if (t0 t1 t2 : TypeId) (u0 u1 u2 : Value) (w : World) : Calls Tryd.prog 128 #[.agg #[.iface t0 u0, .iface t1 u1, .iface t2 u2]] w fun e w' => RetKind 21 e ∧ Below w.heap.size w w' := by
  go_enter Tryd.func128, Tryd.ntmps128
  go_wp2
  exact bodyPost_ret (v := .agg #[.int .i64 21, .int .i64 0, .string ⟨#[]⟩, .int .i64 3]) (by simp [results, Tryd.results128, go_sem]) rfl ⟨⟨_, _, _, rfl⟩, by first | exact ((Below.refl _ _).alloc (Nat.le_refl _) _).alloc (by simp) _ | exact (((Below.refl _ _).alloc (Nat.le_refl _) _).alloc (by simp) _).alloc (by simp; omega) _⟩
theorem node_let (s : ByteArray) (t0 t1 : TypeId) (u0 u1 : Value) (w : World) : Calls Tryd.prog 130 #[.agg #[.string s, .iface t0 u0, .iface t1 u1]] w fun e w' => RetKind 22 e ∧ Below w.heap.size w w' := by
  go_enter Tryd.func130, Tryd.ntmps130
  go_wp2
  exact bodyPost_ret (v := .agg #[.int .i64 22, .int .i64 0, .string s, .int .i64 2]) (by simp [results, Tryd.results130, go_sem]) rfl ⟨⟨_, _, _, rfl⟩, by first | exact ((Below.refl _ _).alloc (Nat.le_refl _) _).alloc (by simp) _ | exact (((Below.refl _ _).alloc (Nat.le_refl _) _).alloc (by simp) _).alloc (by simp; omega) _⟩
theorem node_rep (s : ByteArray) (t0 t1 t2 : TypeId) (u0 u1 u2 : Value) (w : World) : Calls Tryd.prog 132 #[.agg #[.string s, .iface t0 u0, .iface t1 u1, .iface t2 u2]] w fun e w' => RetKind 23 e ∧ Below w.heap.size w w' := by
  go_enter Tryd.func132, Tryd.ntmps132
  go_wp2
  exact bodyPost_ret (v := .agg #[.int .i64 23, .int .i64 0, .string s, .int .i64 3]) (by simp [results, Tryd.results132, go_sem]) rfl ⟨⟨_, _, _, rfl⟩, by first | exact ((Below.refl _ _).alloc (Nat.le_refl _) _).alloc (by simp) _ | exact (((Below.refl _ _).alloc (Nat.le_refl _) _).alloc (by simp) _).alloc (by simp; omega) _⟩

/-- a form's text, from any world above one -/
def TextSaid (W : World) (v : Value) (T : ByteArray) : Prop := ∀ w, Below W.heap.size W w → Calls Tryd.prog 21 #[v] w fun e w' => e = .returned (.string T) ∧ Below W.heap.size W w'
def TextAtSaid (W : World) (v : Value) (least : Int) (T : ByteArray) : Prop := ∀ w, Below W.heap.size W w → Calls Tryd.prog 55 #[v, .int .i64 least] w fun e w' => e = .returned (.string T) ∧ Below W.heap.size W w'

theorem shapes_level (k : Nat) (h1 : 1 ≤ k) (h : k < shapesL.length) : shapesL[k].2.1 = levelN (k : Int) := by
  rw [shapes_len] at h
  match k, h1, h with
  | 1, _, _ | 2, _, _ | 3, _, _ | 4, _, _ | 5, _, _ | 6, _, _ | 7, _, _ | 8, _, _ | 9, _, _ | 10, _, _ | 11, _, _ | 12, _, _ | 13, _, _ | 14, _, _ | 15, _, _ | 16, _, _ | 17, _, _ | 18, _, _ | 19, _, _ | 20, _, _ | 21, _, _ | 22, _, _ | 23, _, _ => rfl
  | n + 24, _, h => exact absurd h (by omega)
theorem shapes_sign (k : Nat) (h5 : 5 ≤ k) (h : k ≤ 17) (hl : k < shapesL.length) : shapesL[k].2.2 = signN (k : Int) := by
  match k, h5, h with
  | 5, _, _ | 6, _, _ | 7, _, _ | 8, _, _ | 9, _, _ | 10, _, _ | 11, _, _ | 12, _, _ | 13, _, _ | 14, _, _ | 15, _, _ | 16, _, _ | 17, _, _ => rfl
  | n + 18, _, h => exact absurd h (by omega)
theorem ShapesIn.level {w : World} (h : ShapesIn w) (k : Nat) (h1 : 1 ≤ k) (h23 : k ≤ 23) : w.cell? ⟨0, k * 3 + 1, none⟩ = some (.int .i64 (levelN (k : Int))) := by
  rw [← shapes_level k h1 (by rw [shapes_len]; omega)]
  exact (h.2 k (by rw [shapes_len]; omega)).2.1
theorem ShapesIn.sign {w : World} (h : ShapesIn w) (k : Nat) (h5 : 5 ≤ k) (h17 : k ≤ 17) : w.cell? ⟨0, k * 3 + 2, none⟩ = some (.string (signN (k : Int))) := by
  rw [← shapes_sign k h5 h17 (by rw [shapes_len]; omega)]
  exact (h.2 k (by rw [shapes_len]; omega)).2.2

end Go.Proofs.YtdfddockgfeccaaDoor
