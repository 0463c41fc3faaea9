/-
  The disk at work is written to.
-/
import Derived.Test.YtddmomcanakoiaaWriteAct
import Derived.Test.YtddmomcanakoiaaMerged11
set_option linter.unusedVariables false
namespace Go.Proofs.Ytddmomcanakoiaa
open Go.RowKit Go.Maps Go.Deep

/-- a row to be read whose block lies below B -/
def ByLow (B : Nat) (w : World) (v : Value) (bs : List UInt8) : Prop := ∃ a cap, v = .slice a bs.length cap ∧ (bs = [] ∨ ∃ rb off, a = some ⟨rb, off, none⟩ ∧ rb < B ∧ ByAt w rb off bs)
theorem ByLow.of {B : Nat} {w0 w : World} {v : Value} {bs : List UInt8} (h : ByRd w0 v bs) (hB : w0.heap.size ≤ B) (hb : Below w0.heap.size w0 w) : ByLow B w v bs := by
  obtain ⟨a, cap, rfl, h, _⟩ := h
  refine ⟨a, cap, rfl, ?_⟩
  rcases h with h | ⟨rb, off, e, hlt, hc⟩
  · exact .inl h
  · exact .inr ⟨rb, off, e, by omega, fun i hi => (hb.cell (by exact hlt)).trans (hc i hi)⟩
theorem ByLow.up {B : Nat} {w w' : World} {v : Value} {bs : List UInt8} (h : ByLow B w v bs) (hb : Below B w w') : ByLow B w' v bs := by
  obtain ⟨a, cap, rfl, h⟩ := h
  refine ⟨a, cap, rfl, ?_⟩
  rcases h with h | ⟨rb, off, e, hlt, hc⟩
  · exact .inl h
  · exact .inr ⟨rb, off, e, hlt, fun i hi => (hb.cell (by exact hlt)).trans (hc i hi)⟩
set_option maxHeartbeats 3200000 in
theorem writeAct_none (B : Nat) (w : World) (g gw pb pw cap : Nat) (a : Option Addr) (v0 v1 : Value) (d : DiskV) (h : Drive B w g v0 v1 d) (hpb : w.cell? ⟨pb, 0, none⟩ = some (.slice a 0 cap)) :
    Calls Try.prog 73 #[.func (.func 78) #[] #[.pointer (some ⟨gw, 0, none⟩)], .pointer (some ⟨pb, 0, none⟩), .pointer (some ⟨pw, 0, none⟩)] w fun e w' => ActOut B g v0 v1 d [] w e w' := by
  have D0 := hide h
  have HE := hide (show goneB d [] = false by simp [goneB])
  clear h
  go_enter Try.func73, Try.ntmps73
  go_wp2_with fail
  refine wp_loop_rounds 1 ?_
  rw [rounds_succ]
  go_wp2_with fail
  go_end0
  exact Or.inl ⟨unhide HE, rfl, hide ⟨v1, by rw [List.length_nil, atD_zero]; exact unhide D0, Turn.refl _ _⟩⟩
theorem writeAct_any (B : Nat) (w : World) (g gw pb pw : Nat) (v0 v1 vb : Value) (d : DiskV) (bs : List UInt8) (hl : d.safe.length + d.soft.length + bs.length ≤ 8000) (hB : B ≤ w.heap.size) (h : Drive B w g v0 v1 d) (hw : w.cell? ⟨gw, 0, none⟩ = some (.pointer (some ⟨g, 0, none⟩)))
    (hpb : w.cell? ⟨pb, 0, none⟩ = some vb) (hpw : w.cell? ⟨pw, 0, none⟩ = some (.pointer (some ⟨g, 0, none⟩))) (n1 : gw ∉ gs g v1) (n2 : pb ∉ gs g v1) (n3 : pw ∉ gs g v1) (hr : ByLow B w vb bs) (hf1 : -1 ≤ d.fuse) (hf2 : d.fuse ≤ 400) :
    Calls Try.prog 73 #[.func (.func 78) #[] #[.pointer (some ⟨gw, 0, none⟩)], .pointer (some ⟨pb, 0, none⟩), .pointer (some ⟨pw, 0, none⟩)] w fun e w' => ActOut B g v0 v1 d bs w e w' := by
  obtain ⟨a, cap, rfl, hr⟩ := hr
  rcases hr with rfl | ⟨rb, off, rfl, hrb, hc⟩
  · exact writeAct_none B w g gw pb pw cap a v0 v1 d h hpb
  · exact writeAct_row B w g gw pb pw rb off cap v0 v1 d bs hl hB h hw hpb hpw n1 n2 n3 hrb hc hf1 hf2
def actD (d : DiskV) (bs : List UInt8) : DiskV := if goneB d bs = true then fellD (atD d bs d.fuse.toNat) else atD d bs bs.length
def actC (d : DiskV) (bs : List UInt8) : Int := if goneB d bs = true then 2 else 0
def ActEnd (B g : Nat) (d : DiskV) (bs : List UInt8) (w : World) (e : Ending) (w' : World) : Prop := e = .returned (.int .i64 (actC d bs)) ∧ Hid (∃ v v', Drive B w' g v v' (actD d bs) ∧ Below B w w')
set_option maxHeartbeats 6400000 in
theorem attemptW (B : Nat) (g p1 p2 : Nat) (w : World) (v0 v1 : Value) (d : DiskV) (bs : List UInt8) (hl : d.safe.length + d.soft.length + bs.length ≤ 8000) (hB : B ≤ w.heap.size) (h : Drive B w g v0 v1 d)
    (HA : Calls Try.prog 73 #[.func (.func 78) #[] #[.pointer (some ⟨w.heap.size, 0, none⟩)], .pointer (some ⟨p1, 0, none⟩), .pointer (some ⟨p2, 0, none⟩)] (attW w g) fun e w' => ActOut B g v0 v1 d bs (attW w g) e w') :
    Calls Try.prog 69 #[.pointer (some ⟨g, 0, none⟩), .func (.func 73) #[] #[.pointer (some ⟨p1, 0, none⟩), .pointer (some ⟨p2, 0, none⟩)]] w fun e w' => ActEnd B g d bs w e w' := by
  have hmf : ∀ (fn : Fn) (first cap : Array Value) (w : World), (Instr.makeFunc fn first cap).run Try.prog w = .ok (.func fn first cap) w := fun _ _ _ _ => rfl
  have HH := hide HA
  have BU := hide (attW_up w g)
  have hs := attW_size w g
  have HG := hide (show w.heap.size + 1 ∉ gs g v1 ∧ w.heap.size ∉ gs g v1 from by
    have hg := h.lt
    refine ⟨fun hm => ?_, fun hm => ?_⟩
    · simp only [gs, List.mem_cons, Option.mem_toList] at hm
      rcases hm with hm | hm
      · omega
      · have := h.r1.lt _ hm; omega
    · simp only [gs, List.mem_cons, Option.mem_toList] at hm
      rcases hm with hm | hm
      · omega
      · have := h.r1.lt _ hm; omega)
  have HGB := hide (show ∀ k ∈ gs g v1, B ≤ k from fun k hk => by
    simp only [gs, List.mem_cons, Option.mem_toList] at hk
    rcases hk with rfl | hk
    · exact h.le
    · exact h.r1.ge k hk)
  -- what stands behind the closure
  have HX := hide (show ∀ w2, Turn (gs g v1) (attW w g) w2 → w2.heap[w.heap.size + 1]? = some (.cells #[.int .i64 0] 3) ∧ w2.cell? ⟨w.heap.size + 1, 0, none⟩ = some (.int .i64 0) ∧ w2.frozen? ⟨w.heap.size + 1, 0, none⟩ = false ∧ w2.cell? ⟨w.heap.size, 0, none⟩ = some (.pointer (some ⟨g, 0, none⟩)) ∧ Below B (attW w g) w2 ∧ w.heap.size + 1 + 1 ≤ w2.heap.size from fun w2 t => by
    obtain ⟨k0, k1, k2⟩ := attW_gc w g
    exact ⟨(t.block _ (by omega) (unhide HG).1).trans k0, (t.cell (by omega) (unhide HG).1).trans k1, (t.frozen (by omega) (unhide HG).1).trans k2, (t.cell (by omega) (unhide HG).2).trans (attW_gw w g), t.below (by omega) (unhide HGB), by have := t.size; omega⟩)
  have hgl := h.lt
  have HGL := hide h.lt
  have H0 := hide h.r0.lt
  clear HA h
  cases hgo : goneB d bs
  · have HE := hide (show actC d bs = 0 ∧ actD d bs = atD d bs bs.length by simp [actC, actD, hgo])
    have HGO := hide hgo
    clear hgo hs
    go_enter_defers Try.func69, Try.ntmps69
    go_wp2_with fail
    refine (unhide HH).mono ?_
    rintro e w2 (⟨_, rfl, P2⟩ | ⟨hbad, _, _⟩)
    rotate_left
    · rw [unhide HGO] at hbad; cases hbad
    obtain ⟨v, p3, t⟩ := unhide P2
    obtain ⟨kb, k1, k2, k3, p4, hz2⟩ := unhide HX w2 t
    have HP := hide (show ∃ v v', Drive B (w2.setCell ⟨w.heap.size + 1, 0, none⟩ (.int .i64 0)) g v v' (actD d bs) ∧ Below B w (w2.setCell ⟨w.heap.size + 1, 0, none⟩ (.int .i64 0)) from by
      have ht : Turn [w.heap.size + 1] w2 (w2.setCell ⟨w.heap.size + 1, 0, none⟩ (.int .i64 0)) := (Turn.refl _ w2).setCell (by simp) 0 _
      rw [(unhide HE).2]
      exact ⟨v0, v, p3.turn ht (by simp; omega) (fun k hk hm => by simp at hm; have := unhide H0 k hk; omega) (fun k hk hm => by simp at hm; subst hm; exact row_apart kb p3.r1 tIntBy hk), (Below.trans ((unhide BU).mono hB) p4).trans (ht.below (by omega) (by simp; omega))⟩)
    have ks : (w2.setCell ⟨w.heap.size + 1, 0, none⟩ (.int .i64 0)).cell? ⟨w.heap.size + 1, 0, none⟩ = some (.int .i64 0) := World.cell?_setCell_same _ _ _ k1
    clear P2 p3 p4 HH kb k3 t
    go_wp2_with fail
    refine leaves_cons (f := 76) (args := #[.pointer (some ⟨w.heap.size, 0, none⟩), .pointer (some ⟨w.heap.size + 1, 0, none⟩)]) (by simp) (by simp [go_sem]) ?_
    refine (catch_idle _ _ _).mono ?_
    rintro e u' w'' ⟨rfl, rfl, rfl⟩
    simp [Leaves, settle, results, Try.results69, go_sem, ks]
    exact ⟨by rw [(unhide HE).1], HP⟩
  · have HE := hide (show actC d bs = 2 ∧ actD d bs = fellD (atD d bs d.fuse.toNat) by simp [actC, actD, hgo])
    have HGO := hide hgo
    clear hgo hs
    go_enter_defers Try.func69, Try.ntmps69
    go_wp2_with fail
    refine (unhide HH).mono ?_
    rintro e w2 (⟨hbad, _, _⟩ | ⟨_, rfl, P2⟩)
    · rw [unhide HGO] at hbad; cases hbad
    obtain ⟨v, p3, t⟩ := unhide P2
    obtain ⟨kb, k1, k2, k3, p4, hz2⟩ := unhide HX w2 t
    have HC := hide (catch_fallen B g w.heap.size (w.heap.size + 1) v0 v (atD d bs d.fuse.toNat) 0 w2 (by simp [atD]; omega) (by omega) p3 k3 k1 k2 (by omega) (by omega) (by have := unhide HGL; omega) _ _ kb tIntBy)
    have B4 := hide p4
    clear P2 p3 p4 HH kb k1 k2 k3 t
    refine leaves_cons (f := 76) (args := #[.pointer (some ⟨w.heap.size, 0, none⟩), .pointer (some ⟨w.heap.size + 1, 0, none⟩)]) (by simp) (by simp [go_sem]) ?_
    refine (unhide HC).mono ?_
    rintro e u' w'' ⟨rfl, rfl, P⟩
    obtain ⟨v', p3, p4, p5⟩ := P
    have HP := hide (show ∃ v v', Drive B w'' g v v' (actD d bs) ∧ Below B w w'' from ⟨v', _, by rw [(unhide HE).2]; exact p3, (Below.trans ((unhide BU).mono hB) (unhide B4)).trans p4⟩)
    clear p3 p4
    simp [Leaves, settle, results, Try.results69, go_sem, p5]
    exact ⟨by rw [(unhide HE).1], HP⟩
end Go.Proofs.Ytddmomcanakoiaa
