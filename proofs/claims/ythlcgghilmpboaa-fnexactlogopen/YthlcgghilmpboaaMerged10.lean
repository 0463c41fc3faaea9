/-
  A record's bytes put behind the program's log. (Made by wip/mklogput.py.)
-/
/-
  The disk at work is cut, and nothing but its own block is written.
-/
import Derived.Test.YthlcgghilmpboaaMerged11
import Derived.Test.YthlcgghilmpboaaLogReadI
import Derived.Test.YthlcgghilmpboaaDriveCut
set_option linter.unusedVariables false
namespace Go.Proofs.Ythlcgghilmpboaa
open Go.RowKit Go.Maps Go.Deep

def RetPb (B g : Nat) (d : DiskV) (bs : List UInt8) (w : World) (e : Ending) (w' : World) : Prop := e = .returned (.int .i64 (pbC d bs)) ∧ ∃ v v1, Drive B w' g v v1 (pbD d bs) ∧ Below B w w'
theorem retPb_of {B g : Nat} {d : DiskV} {bs : List UInt8} {w w' : World} {O : DiskV} {C : Int} {v v1 : Value} (he : pbD d bs = O ∧ pbC d bs = C) (D : Drive B w' g v v1 O) (hb : Below B w w') : RetPb B g d bs w (.returned (.int .i64 C)) w' := by
  obtain ⟨e1, e2⟩ := he
  subst e1 e2
  exact ⟨rfl, v, v1, D, hb⟩
theorem ByLow.form {B : Nat} {w : World} {v : Value} {bs : List UInt8} (h : ByLow B w v bs) : ∃ a n c, v = .slice a n c := by
  obtain ⟨a, c, rfl, _⟩ := h
  exact ⟨a, _, c, rfl⟩
theorem ByLow.on {B : Nat} {w w' : World} {v : Value} {bs : List UInt8} (h : ByLow B w v bs) (hb : Below B w w') : ByLow B w' v bs := by
  obtain ⟨a, c, rfl, h⟩ := h
  refine ⟨a, c, rfl, ?_⟩
  rcases h with h | ⟨rb, off, e, hlt, hc⟩
  · exact .inl h
  · exact .inr ⟨rb, off, e, hlt, fun i hi => (hb.cell (by exact hlt)).trans (hc i hi)⟩
theorem Drive.rd {B : Nat} {w : World} {g : Nat} {v0 v1 : Value} {d : DiskV} (h : Drive B w g v0 v1 d) : DiskRd w (.agg #[v0, v1, .int .i64 d.fuse, .bool d.down]) d := ⟨v0, v1, rfl, h.r0.rd, h.r1.rd⟩
end Go.Proofs.Ythlcgghilmpboaa

set_option linter.unusedVariables false
namespace Go.Proofs.Ythlcgghilmpboaa
open Go.RowKit Go.Maps Go.Deep

set_option maxHeartbeats 6400000 in
theorem attempt_doneT (B : Nat) (g p1 p2 : Nat) (w : World) (v1 : Value) (D : DiskV) (hgl : g < w.heap.size) (hB : B ≤ w.heap.size)
    (HA : Calls Try.prog 45 #[.func (.func 54) #[] #[.pointer (some ⟨w.heap.size, 0, none⟩)], .pointer (some ⟨p1, 0, none⟩), .pointer (some ⟨p2, 0, none⟩)] (attW w g) fun e w' => e = .returned (.tuple #[]) ∧ Hid (∃ v, Drive B w' g v v1 D ∧ Turn [g] (attW w g) w' ∧ (∀ k, v.ownBlock = some k → (attW w g).heap.size ≤ k) ∧ w'.cell? ⟨w.heap.size + 1, 0, none⟩ = some (.int .i64 0) ∧ w'.frozen? ⟨w.heap.size + 1, 0, none⟩ = false ∧ (v.ownBlock ≠ some (w.heap.size + 1)) ∧ (v1.ownBlock ≠ some (w.heap.size + 1)))) :
    Calls Try.prog 44 #[.pointer (some ⟨g, 0, none⟩), .func (.func 45) #[] #[.pointer (some ⟨p1, 0, none⟩), .pointer (some ⟨p2, 0, none⟩)]] w fun e w' => e = .returned (.int .i64 0) ∧ Hid (∃ v, Drive B w' g v v1 D ∧ Turn [g] w w' ∧ ∀ k, v.ownBlock = some k → w.heap.size ≤ k) := by
  have hmf : ∀ (fn : Fn) (first cap : Array Value) (w : World), (Instr.makeFunc fn first cap).run Try.prog w = .ok (.func fn first cap) w := fun _ _ _ _ => rfl
  have HH := hide HA
  have BU := hide (attW_up w g)
  clear HA
  go_enter_defers Try.func44, Try.ntmps44
  go_wp2_with fail
  refine (unhide HH).mono ?_
  rintro e w2 ⟨rfl, P2⟩
  obtain ⟨v, p3, p4, k0, k1, k2, k3, k4⟩ := unhide P2
  have hs := attW_size w g
  have HP := hide (show ∃ v, Drive B (w2.setCell ⟨w.heap.size + 1, 0, none⟩ (.int .i64 0)) g v v1 D ∧ Turn [g] w (w2.setCell ⟨w.heap.size + 1, 0, none⟩ (.int .i64 0)) ∧ ∀ k, v.ownBlock = some k → w.heap.size ≤ k from by
    have ht : Turn [w.heap.size + 1] w2 (w2.setCell ⟨w.heap.size + 1, 0, none⟩ (.int .i64 0)) := (Turn.refl _ w2).setCell (by simp) 0 _
    refine ⟨v, p3.turn ht (by simp; omega) (fun k hk hm => by simp at hm; subst hm; exact k3 hk) (fun k hk hm => by simp at hm; subst hm; exact k4 hk), ?_, fun k hk => by have := k0 k hk; omega⟩
    have q1 : Turn [g, w.heap.size + 1] w (w2.setCell ⟨w.heap.size + 1, 0, none⟩ (.int .i64 0)) := (Turn.trans (Turn.of_below (unhide BU)) (p4.mono (fun k hk => .inl (by simp at hk; simp [hk])))).trans (ht.mono (fun k hk => .inl (by simp at hk; simp [hk])))
    exact q1.mono (fun k hk => by simp at hk; rcases hk with rfl | rfl <;> simp))
  clear hs
  have ks : (w2.setCell ⟨w.heap.size + 1, 0, none⟩ (.int .i64 0)).cell? ⟨w.heap.size + 1, 0, none⟩ = some (.int .i64 0) := World.cell?_setCell_same _ _ _ k1
  clear P2 p3 p4 HH k0
  go_wp2_with fail
  refine leaves_cons (f := 52) (args := #[.pointer (some ⟨w.heap.size, 0, none⟩), .pointer (some ⟨w.heap.size + 1, 0, none⟩)]) (by simp) (by simp [go_sem]) ?_
  refine (catch_idle _ _ _).mono ?_
  rintro e u' w'' ⟨rfl, rfl, rfl⟩
  simp [Leaves, settle, results, Try.results44, go_sem, ks]
  exact unhide HP
theorem cut_readyT (B : Nat) (w : World) (g at' : Nat) (v0 v1 : Value) (d : DiskV) (hl : d.safe.length + d.soft.length ≤ 8000) (hB : B ≤ w.heap.size) (ha : at' ≤ d.safe.length + d.soft.length) (h : Drive B w g v0 v1 d) (hf : d.fuse ≠ 0) (hf1 : -1 ≤ d.fuse) (hf2 : d.fuse ≤ 400) :
    Calls Try.prog 44 #[.pointer (some ⟨g, 0, none⟩), .func (.func 45) #[] #[.pointer (some ⟨w.heap.size, 0, none⟩), .pointer (some ⟨w.heap.size + 1, 0, none⟩)]] (cutW w g (at' : Int)) fun e w' => e = .returned (.int .i64 0) ∧ Hid (∃ v, Drive B w' g v (.slice none 0 0) (cutD d at') ∧ Turn [g] (cutW w g (at' : Int)) w' ∧ ∀ k, v.ownBlock = some k → (cutW w g (at' : Int)).heap.size ≤ k) := by
  have hs := cutW_size w g at'
  have hup := cutW_up w g at'
  have hD := h.up hup
  have hgl := h.lt
  obtain ⟨q1, q2⟩ := cutW_cells w g (at' : Int)
  generalize cutW w g (at' : Int) = W at *
  refine attempt_doneT B g _ _ W (.slice none 0 0) (cutD d at') hD.lt (by omega) ?_
  have ua := attW_up W g
  have sa := attW_size W g
  refine (cutAct_done B (attW W g) g W.heap.size w.heap.size (w.heap.size + 1) at' v0 v1 d hl (by omega) ha (hD.up ua) (attW_gw W g) ((ua.cell (by simp only; omega)).trans q1) ((ua.cell (by simp only; omega)).trans q2) (by omega) (by omega) hf hf1 hf2).mono ?_
  rintro e w' ⟨rfl, P⟩
  obtain ⟨v, p1, p2, p3⟩ := unhide P
  obtain ⟨k0, k1, k2⟩ := attW_gc W g
  have hn : W.heap.size + 1 ∉ [g] := by have := hD.lt; simp; omega
  have kb : w'.heap[W.heap.size + 1]? = some (.cells #[.int .i64 0] 3) := (p2.block _ (by omega) hn).trans k0
  exact ⟨rfl, hide ⟨v, p1, p2, p3, (p2.cell (by omega) hn).trans k1, (p2.frozen (by omega) hn).trans k2, row_apart kb p1.r0 tIntBy, by simp [Value.ownBlock]⟩⟩
set_option maxHeartbeats 3200000 in
theorem driveCut_yes (B : Nat) (w : World) (g at' : Nat) (v0 v1 : Value) (d : DiskV) (hl : d.safe.length + d.soft.length ≤ 8000) (hB : B ≤ w.heap.size) (ha : at' ≤ d.safe.length + d.soft.length) (h : Drive B w g v0 v1 d) (hf1 : -1 ≤ d.fuse) (hf2 : d.fuse ≤ 400) (hdn : d.down = false) (hf : d.fuse ≠ 0) :
    Calls Try.prog 37 #[.pointer (some ⟨g, 0, none⟩), .int .i64 (at' : Int)] w fun e w' => e = .returned (.int .i64 0) ∧ Hid (∃ v, Drive B w' g v (.slice none 0 0) (cutD d at') ∧ Turn [g] w w' ∧ ∀ k, v.ownBlock = some k → w.heap.size ≤ k) := by
  have hmf : ∀ (fn : Fn) (first cap : Array Value) (w : World), (Instr.makeFunc fn first cap).run Try.prog w = .ok (.func fn first cap) w := fun _ _ _ _ => rfl
  have bu := cutW_up w g at'
  have hD := h.up bu
  have c3 := hD.c3
  unfold cutW at c3
  have HZ := hide (cutW_size w g at')
  have HA := hide (cut_readyT B w g at' v0 v1 d hl hB ha h hf hf1 hf2)
  have HB := hide bu
  unfold cutW at HA HB HZ
  rw [hdn] at c3
  clear h hD bu hdn
  go_enter Try.func37, Try.ntmps37
  go_wp2_with fail
  refine (unhide HA).mono ?_
  rintro e w2 ⟨rfl, P⟩
  have HP := hide (unhide P)
  clear P c3
  go_wp2_with fail
  go_ret
  obtain ⟨v, p1, p2, p3⟩ := unhide HP
  exact ⟨rfl, hide ⟨v, p1, (Turn.of_below (unhide HB)).trans p2, fun k hk => by have := p3 k hk; have := unhide HZ; omega⟩⟩
end Go.Proofs.Ythlcgghilmpboaa
