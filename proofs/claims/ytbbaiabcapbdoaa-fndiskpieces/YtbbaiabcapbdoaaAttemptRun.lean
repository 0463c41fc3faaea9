/-
  The attempt itself, around a closure that is done or gives up.
-/
import Derived.Test.YtbbaiabcapbdoaaAttempts
set_option linter.unusedVariables false
namespace Go.Proofs.Ytbbaiabcapbdoaa
open Go.RowKit Go.Maps Go.Deep

/-- a disk at work behind an attempt -/
def Drove (B g : Nat) (v1 : Value) (D : DiskV) (w w' : World) : Prop := ∃ v, Drive B w' g v v1 D ∧ Below B w w'
/-- the world in which the closure is called -/
def attW (w : World) (g : Nat) : World := (w.alloc (.cells #[.pointer (some ⟨g, 0, none⟩)] 64)).alloc (.cells #[.int .i64 0] 3)
theorem attW_size (w : World) (g : Nat) : (attW w g).heap.size = w.heap.size + 1 + 1 := by simp [attW]
theorem attW_up (w : World) (g : Nat) : Below w.heap.size w (attW w g) := ((Below.refl _ _).alloc (Nat.le_refl _) _).alloc (by simp) _
theorem attW_gw (w : World) (g : Nat) : (attW w g).cell? ⟨w.heap.size, 0, none⟩ = some (.pointer (some ⟨g, 0, none⟩)) := by
  unfold attW
  rw [World.cell?_alloc_past _ _ _ (by simp), World.cell?_alloc_at _ _ _ _ (by simp)]
  rfl
theorem attW_gc (w : World) (g : Nat) : (attW w g).heap[w.heap.size + 1]? = some (.cells #[.int .i64 0] 3) ∧ (attW w g).cell? ⟨w.heap.size + 1, 0, none⟩ = some (.int .i64 0) ∧ (attW w g).frozen? ⟨w.heap.size + 1, 0, none⟩ = false := by
  have h := boxF_new (w.alloc (.cells #[.pointer (some ⟨g, 0, none⟩)] 64)) [.int .i64 0] 3
  have hs : (w.alloc (.cells #[.pointer (some ⟨g, 0, none⟩)] 64)).heap.size = w.heap.size + 1 := by simp
  rw [hs] at h
  refine ⟨?_, h.1.at 0 _ rfl, h.2 0 (by simp)⟩
  have := heap_alloc_new (w.alloc (.cells #[.pointer (some ⟨g, 0, none⟩)] 64)) (.cells #[.int .i64 0] 3)
  rw [hs] at this
  exact this
theorem tIntBy : 3 ≠ 5 := by decide
set_option maxHeartbeats 6400000 in
theorem attempt_done (B : Nat) (g p1 p2 : Nat) (w : World) (v1 : Value) (D : DiskV) (hgl : g < w.heap.size) (hB : B ≤ w.heap.size)
    (HA : Calls Try.prog 45 #[.func (.func 43) #[] #[.pointer (some ⟨w.heap.size, 0, none⟩)], .pointer (some ⟨p1, 0, none⟩), .pointer (some ⟨p2, 0, none⟩)] (attW w g) fun e w' => e = .returned (.tuple #[]) ∧ Hid (∃ v, Drive B w' g v v1 D ∧ Below B (attW w g) w' ∧ w'.cell? ⟨w.heap.size + 1, 0, none⟩ = some (.int .i64 0) ∧ w'.frozen? ⟨w.heap.size + 1, 0, none⟩ = false ∧ (v.ownBlock ≠ some (w.heap.size + 1)) ∧ (v1.ownBlock ≠ some (w.heap.size + 1)))) :
    Calls Try.prog 36 #[.pointer (some ⟨g, 0, none⟩), .func (.func 45) #[] #[.pointer (some ⟨p1, 0, none⟩), .pointer (some ⟨p2, 0, none⟩)]] w fun e w' => e = .returned (.int .i64 0) ∧ Drove B g v1 D w w' := by
  have hmf : ∀ (fn : Fn) (first cap : Array Value) (w : World), (Instr.makeFunc fn first cap).run Try.prog w = .ok (.func fn first cap) w := fun _ _ _ _ => rfl
  have HH := hide HA
  have BU := hide (attW_up w g)
  clear HA
  go_enter_defers Try.func36, Try.ntmps36
  go_wp2_with fail
  refine (unhide HH).mono ?_
  rintro e w2 ⟨rfl, P2⟩
  obtain ⟨v, p3, p4, k1, k2, k3, k4⟩ := unhide P2
  have HP := hide (show Drove B g v1 D w (w2.setCell ⟨w.heap.size + 1, 0, none⟩ (.int .i64 0)) from by
    have ht : Turn [w.heap.size + 1] w2 (w2.setCell ⟨w.heap.size + 1, 0, none⟩ (.int .i64 0)) := (Turn.refl _ w2).setCell (by simp) 0 _
    refine ⟨v, p3.turn ht (by simp; omega) (fun k hk hm => by simp at hm; subst hm; exact k3 hk) (fun k hk hm => by simp at hm; subst hm; exact k4 hk), ?_⟩
    have hs := attW_size w g
    exact (Below.trans ((unhide BU).mono hB) p4).trans (ht.below (by have := p4.size; omega) (by simp; omega)))
  have ks : (w2.setCell ⟨w.heap.size + 1, 0, none⟩ (.int .i64 0)).cell? ⟨w.heap.size + 1, 0, none⟩ = some (.int .i64 0) := World.cell?_setCell_same _ _ _ k1
  clear P2 p3 p4 HH
  go_wp2_with fail
  refine leaves_cons (f := 42) (args := #[.pointer (some ⟨w.heap.size, 0, none⟩), .pointer (some ⟨w.heap.size + 1, 0, none⟩)]) (by simp) (by simp [go_sem]) ?_
  refine (catch_idle _ _ _).mono ?_
  rintro e u' w'' ⟨rfl, rfl, rfl⟩
  simp [Leaves, settle, results, Try.results36, go_sem, ks]
  exact unhide HP
set_option maxHeartbeats 6400000 in
theorem attempt_gone (B : Nat) (g p1 p2 : Nat) (w : World) (v0 v1 : Value) (d : DiskV) (hl : d.safe.length + d.soft.length ≤ 100000) (hgl : g < w.heap.size) (hB : B ≤ w.heap.size) (h : Drive B w g v0 v1 d)
    (HA : Calls Try.prog 45 #[.func (.func 43) #[] #[.pointer (some ⟨w.heap.size, 0, none⟩)], .pointer (some ⟨p1, 0, none⟩), .pointer (some ⟨p2, 0, none⟩)] (attW w g) fun e w' => e = .panicked fallenChain ∧ w' = attW w g) :
    Calls Try.prog 36 #[.pointer (some ⟨g, 0, none⟩), .func (.func 45) #[] #[.pointer (some ⟨p1, 0, none⟩), .pointer (some ⟨p2, 0, none⟩)]] w fun e w' => e = .returned (.int .i64 2) ∧ Drove B g (.slice none 0 0) (fellD d) w w' := by
  have hmf : ∀ (fn : Fn) (first cap : Array Value) (w : World), (Instr.makeFunc fn first cap).run Try.prog w = .ok (.func fn first cap) w := fun _ _ _ _ => rfl
  have HH := hide HA
  have hs := attW_size w g
  have HC := hide (catch_fallen B g w.heap.size (w.heap.size + 1) v0 v1 d 0 (attW w g) hl (by omega) (h.up (attW_up w g)) (attW_gw w g) (attW_gc w g).2.1 (attW_gc w g).2.2 (by omega) (by omega) (by omega) _ _ (attW_gc w g).1 tIntBy)
  have BU := hide (attW_up w g)
  clear HA h hs
  go_enter_defers Try.func36, Try.ntmps36
  go_wp2_with fail
  refine (unhide HH).mono ?_
  rintro e w2 ⟨rfl, rfl⟩
  clear HH
  refine leaves_cons (f := 42) (args := #[.pointer (some ⟨w.heap.size, 0, none⟩), .pointer (some ⟨w.heap.size + 1, 0, none⟩)]) (by simp) (by simp [go_sem]) ?_
  refine (unhide HC).mono ?_
  rintro e u' w'' ⟨rfl, rfl, P⟩
  obtain ⟨v, p3, p4, p5⟩ := P
  have HP := hide (show Drove B g (.slice none 0 0) (fellD d) w w'' from ⟨v, p3, Below.trans ((unhide BU).mono hB) p4⟩)
  clear p3 p4
  simp [Leaves, settle, results, Try.results36, go_sem, p5]
  exact unhide HP
end Go.Proofs.Ytbbaiabcapbdoaa
