/-
  FrameBytes of the program.
-/
import Derived.Test.YtongnlbdpfhngaaFrameBytesS
import Derived.Test.YtongnlbdpfhngaaFrameSzI
set_option linter.unusedVariables false
namespace Go.Proofs.Ytongnlbdpfhngaa
open Go.RowKit Go.Maps Go.Deep

def headV (n : Nat) : Value := .agg #[.int .u8 245, .int .u8 ((beB (n : Int) 1).toNat : Int), .int .u8 ((beB (n : Int) 0).toNat : Int)]
theorem beB_one (n : Nat) : ((beB (n : Int) 1).toNat : Int) = (n : Int) / 256 % 256 := by rw [beB_val]; rfl
theorem beB_zero (n : Nat) : ((beB (n : Int) 0).toNat : Int) = (n : Int) % 256 := by rw [beB_val]; simp; rfl
set_option maxHeartbeats 3200000 in
theorem headFor_any (n : Nat) (w : World) (hn : n ≤ 1048576) : Calls Try.prog 41 #[.int .i64 (n : Int)] w fun e w' => e = .returned (headV n) ∧ Below w.heap.size w w' := by
  unfold headV
  rw [beB_one, beB_zero]
  go_enter Try.func41, Try.ntmps41
  go_wp2_with fail
  exact bodyPost_ret (v := .agg #[.int .u8 245, .int .u8 ((n : Int) / 256 % 256), .int .u8 ((n : Int) % 256)]) (by simp [results, Try.results41, go_sem]) rfl ⟨rfl, by go_grown⟩
theorem headRow (w : World) (n : Nat) (T : TypeId) : ByRd (w.alloc (.cells #[.int .u8 245, .int .u8 ((beB (n : Int) 1).toNat : Int), .int .u8 ((beB (n : Int) 0).toNat : Int)] T)) (.slice (some ⟨w.heap.size, 0, none⟩) 3 3) [245, beB (n : Int) 1, beB (n : Int) 0] := by
  refine ⟨_, 3, rfl, .inr ⟨w.heap.size, 0, rfl, by simp, fun i hi => ?_⟩, Nat.le_refl _⟩
  rw [World.cell?_alloc_at _ _ _ _ (by simp)]
  match i, hi with
  | 0, _ => rfl
  | 1, _ => rfl
  | 2, _ => rfl
theorem pairRow (w : World) (u v : Value) (T : TypeId) (g : Nat) (hg : g = w.heap.size) : g < (w.alloc (.cells #[u, v] T)).heap.size ∧ (w.alloc (.cells #[u, v] T)).cell? ⟨g, 0, none⟩ = some u ∧ (w.alloc (.cells #[u, v] T)).cell? ⟨g, 1, none⟩ = some v := by
  subst hg
  refine ⟨by simp, ?_, ?_⟩
  all_goals
    rw [World.cell?_alloc_at _ _ _ _ rfl]
    rfl
end Go.Proofs.Ytongnlbdpfhngaa
