/-
  Disks as values, for reading and of one's own; both sides of DiskOk; the laws' own helpers over one disk.
-/
import Derived.Test.YtbbaiabcapbdoaaBytes
import Derived.Handy
set_option linter.unusedVariables false
namespace Go.Proofs.Ytbbaiabcapbdoaa
open Go.RowKit Go.Maps Go.Deep

structure DiskV where
  safe : List UInt8
  soft : List UInt8
  fuse : Int
  down : Bool
def DiskFit (d : DiskV) : Prop := d.safe.length ≤ maxLen ∧ d.soft.length ≤ maxLen
def DiskRd (w : World) (v : Value) (d : DiskV) : Prop := ∃ v0 v1, v = .agg #[v0, v1, .int .i64 d.fuse, .bool d.down] ∧ ByRd w v0 d.safe ∧ ByRd w v1 d.soft
def DiskOwn (S : List Nat) (w : World) (v : Value) (d : DiskV) : Prop := ∃ v0 v1 S0 S1, S = S0 ++ S1 ∧ v = .agg #[v0, v1, .int .i64 d.fuse, .bool d.down] ∧ ByOwn S0 w v0 d.safe ∧ ByOwn S1 w v1 d.soft ∧ ∀ k ∈ S0, k ∉ S1
theorem DiskRd.up {w w' : World} {v : Value} {d : DiskV} (h : DiskRd w v d) (hb : Below w.heap.size w w') : DiskRd w' v d := by
  obtain ⟨v0, v1, e, h0, h1⟩ := h
  exact ⟨v0, v1, e, h0.up hb, h1.up hb⟩
theorem DiskOwn.rd {S : List Nat} {w : World} {v : Value} {d : DiskV} (h : DiskOwn S w v d) : DiskRd w v d := by
  obtain ⟨v0, v1, S0, S1, _, e, h0, h1, _⟩ := h
  exact ⟨v0, v1, e, h0.rd, h1.rd⟩
theorem DiskOwn.turn {S S' : List Nat} {w w' : World} {v : Value} {d : DiskV} (h : DiskOwn S w v d) (ht : Turn S' w w') (hS : ∀ k ∈ S, k ∉ S') : DiskOwn S w' v d := by
  obtain ⟨v0, v1, S0, S1, rfl, e, h0, h1, hd⟩ := h
  exact ⟨v0, v1, S0, S1, rfl, e, h0.turn ht (fun k hk => hS k (by simp [hk])), h1.turn ht (fun k hk => hS k (by simp [hk])), hd⟩
theorem DiskOwn.up {S : List Nat} {w w' : World} {v : Value} {d : DiskV} (h : DiskOwn S w v d) (hb : Below w.heap.size w w') : DiskOwn S w' v d := h.turn (Turn.of_below (S := []) hb) (by simp)
theorem DiskOwn.lt {S : List Nat} {w : World} {v : Value} {d : DiskV} (h : DiskOwn S w v d) : ∀ k ∈ S, k < w.heap.size := by
  obtain ⟨v0, v1, S0, S1, rfl, e, h0, h1, hd⟩ := h
  intro k hk
  rcases List.mem_append.1 hk with hk | hk
  · exact h0.lt k hk
  · exact h1.lt k hk

/-- which disks may be -/
def diskOkB (d : DiskV) : Bool := decide (d.safe.length + d.soft.length ≤ 8000) && decide (-1 ≤ d.fuse) && decide (d.fuse ≤ 400) && (!d.down || (decide (d.soft.length = 0) && decide (d.fuse = -1)))

set_option maxHeartbeats 3200000 in
theorem specDiskOk_val (n0 c0 n1 c1 : Nat) (a0 a1 : Option Addr) (fuse : Int) (down : Bool) (w : World) (h0 : n0 ≤ maxLen) (h1 : n1 ≤ maxLen) :
    Calls Try.prog 22 #[.agg #[.slice a0 n0 c0, .slice a1 n1 c1, .int .i64 fuse, .bool down]] w fun e w' => e = .returned (.bool (decide (n0 + n1 ≤ 8000) && decide (-1 ≤ fuse) && decide (fuse ≤ 400) && (!down || (decide (n1 = 0) && decide (fuse = -1))))) ∧ Below w.heap.size w w' := by
  unfold maxLen at h0 h1
  cases down
  all_goals
    go_enter Try.func22, Try.ntmps22
    go_wp2
    all_goals
      first
      | (exfalso; omega)
      | (go_ret
         refine ⟨ret_bool ?_, by go_grown⟩
         rw [Bool.eq_iff_iff]
         simp
         omega)

theorem size_val (n0 c0 n1 c1 : Nat) (a0 a1 : Option Addr) (fuse : Int) (down : Bool) (w : World) (h0 : n0 ≤ 281474976710656) (h1 : n1 ≤ 281474976710656) :
    Calls Try.prog 34 #[.agg #[.slice a0 n0 c0, .slice a1 n1 c1, .int .i64 fuse, .bool down]] w fun e w' => e = .returned (.int .i64 ((n0 : Int) + (n1 : Int))) ∧ Below w.heap.size w w' := by
  go_enter Try.func34, Try.ntmps34
  go_wp2
  go_ret
  exact ⟨rfl, by go_grown⟩
theorem fuseOk_any (fuse : Int) (w : World) : Calls Try.prog 27 #[.int .i64 fuse] w fun e w' => e = .returned (.bool (decide (-1 ≤ fuse) && decide (fuse ≤ 400))) ∧ w' = w := by
  by_cases g2 : -1 ≤ fuse
  all_goals
    go_enter Try.func27, Try.ntmps27
    go_wp2
    go_ret
    exact ⟨ret_bool (by rw [Bool.eq_iff_iff]; simp; omega), rfl⟩
theorem box4 {w w2 : World} {x0 x1 x2 x3 : Value} {T : TypeId} (hb : Below (w.alloc (.cells #[x0, x1, x2, x3] T)).heap.size (w.alloc (.cells #[x0, x1, x2, x3] T)) w2) :
    w2.cell? ⟨w.heap.size, 0, none⟩ = some x0 ∧ w2.cell? ⟨w.heap.size, 1, none⟩ = some x1 ∧ w2.cell? ⟨w.heap.size, 2, none⟩ = some x2 ∧ w2.cell? ⟨w.heap.size, 3, none⟩ = some x3 := by
  refine ⟨?_, ?_, ?_, ?_⟩
  all_goals
    rw [hb.cell (by simp), World.cell?_alloc_at _ _ _ _ rfl]
    rfl
set_option maxHeartbeats 3200000 in
theorem implDiskOk_val (n0 c0 n1 c1 : Nat) (a0 a1 : Option Addr) (fuse : Int) (down : Bool) (w : World) (h0 : n0 ≤ 281474976710656) (h1 : n1 ≤ 281474976710656) :
    Calls Try.prog 19 #[.agg #[.slice a0 n0 c0, .slice a1 n1 c1, .int .i64 fuse, .bool down]] w fun e w' => e = .returned (.bool (decide (n0 + n1 ≤ 8000) && decide (-1 ≤ fuse) && decide (fuse ≤ 400) && (!down || (decide (n1 = 0) && decide (fuse = -1))))) ∧ Below w.heap.size w w' := by
  have HZ := hide (fun W => size_val n0 c0 n1 c1 a0 a1 fuse down W h0 h1)
  cases down
  · go_enter Try.func19, Try.ntmps19
    go_wp2_with (first
      | (go_at_call 34; refine (unhide HZ _).mono ?_; rintro e w1 ⟨rfl, hb1⟩; obtain ⟨x0, x1, x2, x3⟩ := box4 hb1)
      | (go_at_call 27; refine (fuseOk_any _ _).mono ?_; rintro e w2 ⟨rfl, rfl⟩)
      | fail)
    all_goals
      first
      | (exfalso; omega)
      | (go_ret
         refine ⟨ret_bool ?_, by first | exact ((Below.refl _ _).alloc (Nat.le_refl _) _).trans (hb1.mono (by simp)) | go_grown⟩
         rw [Bool.eq_iff_iff]
         simp
         omega)
  · by_cases g1 : n1 = 0
    · subst g1
      by_cases g2 : fuse = -1
      · subst g2
        go_enter Try.func19, Try.ntmps19
        go_wp2_with (first
          | (go_at_call 34; refine (unhide HZ _).mono ?_; rintro e w1 ⟨rfl, hb1⟩; obtain ⟨x0, x1, x2, x3⟩ := box4 hb1)
          | (go_at_call 27; refine (fuseOk_any _ _).mono ?_; rintro e w2 ⟨rfl, rfl⟩)
          | fail)
        all_goals
          first
          | (exfalso; omega)
          | (go_ret
             refine ⟨ret_bool ?_, by first | exact ((Below.refl _ _).alloc (Nat.le_refl _) _).trans (hb1.mono (by simp)) | go_grown⟩
             rw [Bool.eq_iff_iff]
             simp
             omega)
      · have g3 : (fuse != -1) = true := by simpa using g2
        go_enter Try.func19, Try.ntmps19
        go_wp2_with (first
          | (go_at_call 34; refine (unhide HZ _).mono ?_; rintro e w1 ⟨rfl, hb1⟩; obtain ⟨x0, x1, x2, x3⟩ := box4 hb1)
          | (go_at_call 27; refine (fuseOk_any _ _).mono ?_; rintro e w2 ⟨rfl, rfl⟩)
          | fail)
        all_goals
          first
          | (exfalso; omega)
          | (go_ret
             refine ⟨ret_bool ?_, by first | exact ((Below.refl _ _).alloc (Nat.le_refl _) _).trans (hb1.mono (by simp)) | go_grown⟩
             rw [Bool.eq_iff_iff]
             simp
             omega)
    · have g3 : (0 : Int) < (n1 : Int) := by omega
      go_enter Try.func19, Try.ntmps19
      go_wp2_with (first
        | (go_at_call 34; refine (unhide HZ _).mono ?_; rintro e w1 ⟨rfl, hb1⟩; obtain ⟨x0, x1, x2, x3⟩ := box4 hb1)
        | (go_at_call 27; refine (fuseOk_any _ _).mono ?_; rintro e w2 ⟨rfl, rfl⟩)
        | fail)
      all_goals
        first
        | (exfalso; omega)
        | (go_ret
           refine ⟨ret_bool ?_, by first | exact ((Below.refl _ _).alloc (Nat.le_refl _) _).trans (hb1.mono (by simp)) | go_grown⟩
           rw [Bool.eq_iff_iff]
           simp
           omega)
theorem specDiskOk_any (d : DiskV) (v : Value) (w : World) (hf : DiskFit d) (h : DiskRd w v d) : Calls Try.prog 22 #[v] w fun e w' => e = .returned (.bool (diskOkB d)) ∧ Below w.heap.size w w' := by
  obtain ⟨v0, v1, rfl, ⟨a0, c0, rfl, _⟩, ⟨a1, c1, rfl, _⟩⟩ := h
  exact specDiskOk_val d.safe.length c0 d.soft.length c1 a0 a1 d.fuse d.down w hf.1 hf.2
theorem implDiskOk_any (d : DiskV) (v : Value) (w : World) (h0 : d.safe.length ≤ 281474976710656) (h1 : d.soft.length ≤ 281474976710656) (h : DiskRd w v d) : Calls Try.prog 19 #[v] w fun e w' => e = .returned (.bool (diskOkB d)) ∧ Below w.heap.size w w' := by
  obtain ⟨v0, v1, rfl, ⟨a0, c0, rfl, _⟩, ⟨a1, c1, rfl, _⟩⟩ := h
  exact implDiskOk_val d.safe.length c0 d.soft.length c1 a0 a1 d.fuse d.down w h0 h1
end Go.Proofs.Ytbbaiabcapbdoaa
