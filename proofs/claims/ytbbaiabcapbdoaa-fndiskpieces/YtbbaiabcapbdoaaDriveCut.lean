/-
  The disk at work is cut.
-/
import Derived.Test.YtbbaiabcapbdoaaAttemptRun
import Derived.Test.YtbbaiabcapbdoaaDiskCut
set_option linter.unusedVariables false
namespace Go.Proofs.Ytbbaiabcapbdoaa
open Go.RowKit Go.Maps Go.Deep

def cutW (w : World) (g : Nat) (at' : Int) : World := (w.alloc (.cells #[.pointer (some ⟨g, 0, none⟩)] 64)).alloc (.cells #[.int .i64 at'] 3)
theorem cutW_size (w : World) (g : Nat) (at' : Int) : (cutW w g at').heap.size = w.heap.size + 1 + 1 := by simp [cutW]
theorem cutW_up (w : World) (g : Nat) (at' : Int) : Below w.heap.size w (cutW w g at') := ((Below.refl _ _).alloc (Nat.le_refl _) _).alloc (by simp) _
theorem cutW_cells (w : World) (g : Nat) (at' : Int) : (cutW w g at').cell? ⟨w.heap.size, 0, none⟩ = some (.pointer (some ⟨g, 0, none⟩)) ∧ (cutW w g at').cell? ⟨w.heap.size + 1, 0, none⟩ = some (.int .i64 at') := by
  unfold cutW
  refine ⟨?_, ?_⟩
  · rw [World.cell?_alloc_past _ _ _ (by simp), World.cell?_alloc_at _ _ _ _ (by simp)]
    rfl
  · rw [World.cell?_alloc_at _ _ _ _ (by simp)]
    rfl
theorem cut_ready (B : Nat) (w : World) (g at' : Nat) (v0 v1 : Value) (d : DiskV) (hl : d.safe.length + d.soft.length ≤ 8000) (hB : B ≤ w.heap.size) (ha : at' ≤ d.safe.length + d.soft.length) (h : Drive B w g v0 v1 d) (hf : d.fuse ≠ 0) (hf1 : -1 ≤ d.fuse) (hf2 : d.fuse ≤ 400) :
    Calls Try.prog 36 #[.pointer (some ⟨g, 0, none⟩), .func (.func 45) #[] #[.pointer (some ⟨w.heap.size, 0, none⟩), .pointer (some ⟨w.heap.size + 1, 0, none⟩)]] (cutW w g (at' : Int)) fun e w' => e = .returned (.int .i64 0) ∧ Drove B g (.slice none 0 0) (cutD d at') (cutW w g (at' : Int)) w' := by
  have hs := cutW_size w g at'
  have hup := cutW_up w g at'
  have hD := h.up hup
  have hgl := h.lt
  obtain ⟨q1, q2⟩ := cutW_cells w g (at' : Int)
  generalize cutW w g (at' : Int) = W at *
  refine attempt_done B g _ _ W (.slice none 0 0) (cutD d at') hD.lt (by omega) ?_
  have ua := attW_up W g
  have sa := attW_size W g
  refine (cutAct_done B (attW W g) g W.heap.size w.heap.size (w.heap.size + 1) at' v0 v1 d hl (by omega) ha (hD.up ua) (attW_gw W g) ((ua.cell (by simp only; omega)).trans q1) ((ua.cell (by simp only; omega)).trans q2) (by omega) (by omega) hf hf1 hf2).mono ?_
  rintro e w' ⟨rfl, P⟩
  obtain ⟨v, p1, p2, _⟩ := unhide P
  obtain ⟨k0, k1, k2⟩ := attW_gc W g
  have hn : W.heap.size + 1 ∉ [g] := by have := hD.lt; simp; omega
  have kb : w'.heap[W.heap.size + 1]? = some (.cells #[.int .i64 0] 3) := (p2.block _ (by omega) hn).trans k0
  exact ⟨rfl, hide ⟨v, p1, p2.below (by omega) (by simpa using h.le), (p2.cell (by omega) hn).trans k1, (p2.frozen (by omega) hn).trans k2, row_apart kb p1.r0 tIntBy, by simp [Value.ownBlock]⟩⟩
theorem cut_gone' (B : Nat) (w : World) (g at' : Nat) (v0 v1 : Value) (d : DiskV) (hl : d.safe.length + d.soft.length ≤ 8000) (hB : B ≤ w.heap.size) (h : Drive B w g v0 v1 d) (hf : d.fuse = 0) :
    Calls Try.prog 36 #[.pointer (some ⟨g, 0, none⟩), .func (.func 45) #[] #[.pointer (some ⟨w.heap.size, 0, none⟩), .pointer (some ⟨w.heap.size + 1, 0, none⟩)]] (cutW w g (at' : Int)) fun e w' => e = .returned (.int .i64 2) ∧ Drove B g (.slice none 0 0) (fellD d) (cutW w g (at' : Int)) w' := by
  have hs := cutW_size w g at'
  have hup := cutW_up w g at'
  have hD := h.up hup
  generalize cutW w g (at' : Int) = W at *
  exact attempt_gone B g _ _ W v0 v1 d (by omega) hD.lt (by omega) hD (cutAct_gone B (attW W g) g W.heap.size _ _ v0 v1 d (hD.up (attW_up W g)) (attW_gw W g) hf)
def cutOut (d : DiskV) (at' : Nat) : DiskV := if d.down then d else if d.fuse = 0 then fellD d else cutD d at'
def cutCode (d : DiskV) : Int := if d.down then 2 else if d.fuse = 0 then 2 else 0
def RetCut (B g : Nat) (d : DiskV) (at' : Nat) (w : World) (e : Ending) (w' : World) : Prop := e = .returned (.int .i64 (cutCode d)) ∧ ∃ v v1, Drive B w' g v v1 (cutOut d at') ∧ Below B w w'
set_option maxHeartbeats 3200000 in
theorem driveCut_any (B : Nat) (w : World) (g at' : Nat) (v0 v1 : Value) (d : DiskV) (hl : d.safe.length + d.soft.length ≤ 8000) (hB : B ≤ w.heap.size) (ha : at' ≤ d.safe.length + d.soft.length) (h : Drive B w g v0 v1 d) (hf1 : -1 ≤ d.fuse) (hf2 : d.fuse ≤ 400) :
    Calls Try.prog 39 #[.pointer (some ⟨g, 0, none⟩), .int .i64 (at' : Int)] w fun e w' => RetCut B g d at' w e w' := by
  have hmf : ∀ (fn : Fn) (first cap : Array Value) (w : World), (Instr.makeFunc fn first cap).run Try.prog w = .ok (.func fn first cap) w := fun _ _ _ _ => rfl
  have bu := cutW_up w g at'
  have hD := h.up bu
  have c3 := hD.c3
  unfold cutW at c3
  cases hdn : d.down
  · by_cases hf : d.fuse = 0
    · have HA := hide (cut_gone' B w g at' v0 v1 d hl hB h hf)
      have HB := hide (bu.mono hB)
      unfold cutW at HA HB
      rw [hdn] at c3
      have HE := hide (show cutCode d = 2 ∧ cutOut d at' = fellD d by simp [cutCode, cutOut, hdn, hf])
      clear h hD bu hdn
      go_enter Try.func39, Try.ntmps39
      go_wp2_with fail
      refine (unhide HA).mono ?_
      rintro e w2 ⟨rfl, P⟩
      have HP := hide P
      clear P c3
      go_wp2_with fail
      go_ret
      obtain ⟨v, p1, p2⟩ := unhide HP
      exact ⟨by rw [(unhide HE).1]; rfl, v, _, by rw [(unhide HE).2]; exact p1, (unhide HB).trans p2⟩
    · have HA := hide (cut_ready B w g at' v0 v1 d hl hB ha h hf hf1 hf2)
      have HB := hide (bu.mono hB)
      unfold cutW at HA HB
      rw [hdn] at c3
      have HE := hide (show cutCode d = 0 ∧ cutOut d at' = cutD d at' by simp [cutCode, cutOut, hdn, hf])
      clear h hD bu hdn
      go_enter Try.func39, Try.ntmps39
      go_wp2_with fail
      refine (unhide HA).mono ?_
      rintro e w2 ⟨rfl, P⟩
      have HP := hide P
      clear P c3
      go_wp2_with fail
      go_ret
      obtain ⟨v, p1, p2⟩ := unhide HP
      exact ⟨by rw [(unhide HE).1]; rfl, v, _, by rw [(unhide HE).2]; exact p1, (unhide HB).trans p2⟩
  · have HD := hide hD
    have HB := hide (bu.mono hB)
    unfold cutW at HD HB
    rw [hdn] at c3
    have HE := hide (show cutCode d = 2 ∧ cutOut d at' = d by simp [cutCode, cutOut, hdn])
    clear h hD bu hdn
    go_enter Try.func39, Try.ntmps39
    go_wp2_with fail
    go_ret
    exact ⟨by rw [(unhide HE).1]; rfl, _, _, by rw [(unhide HE).2]; exact unhide HD, unhide HB⟩
end Go.Proofs.Ytbbaiabcapbdoaa
