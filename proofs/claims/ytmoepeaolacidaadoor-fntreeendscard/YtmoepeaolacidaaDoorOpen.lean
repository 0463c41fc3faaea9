/-
  A law's input of bytes, the reader over it, and what the specification draws of it.
-/
import Derived.Test.YtmoepeaolacidaaDoorSpoil
namespace Go.Proofs.YtmoepeaolacidaaDoor
open Go.RowKit Go.Maps Go.Deep Go.ChangeShapes Go.WideShapes Go.ChangeAt

/-- bytes lie there -/
def BytesIn (w : World) (a : Option Addr) (n : Nat) : Prop :=
  n = 0 ∨ ∃ b off, a = some ⟨b, off, none⟩ ∧ b < w.heap.size ∧ ∀ i, i < n → ∃ v : Nat, v ≤ 255 ∧ w.cell? ⟨b, off + i, none⟩ = some (.int .u8 (v : Int))

theorem cells_byte : Tryd.prog.cellsOf 5 = 1 := by kernel_rfl
theorem open_bytes {H : Type} {enc : TypeId × Value → H} {w : World} {base : Nat} {spare : Nat → Bool} {held : Bool} {a : Option Addr} {len cap : Nat} {d : DataW H} {p : List MemPlace}
    (h : DataW.Trod enc Tryd.prog w base spare held 22 (.slice a len cap) d p) :
    len ≤ maxLen ∧ len ≤ cap ∧ BytesIn w a len := by
  obtain ⟨fuel, hf⟩ := h
  rcases open_slice Tryd.underlying22 hf with ⟨hcs, _⟩ | ⟨a', len', cap', m, n, D, Pl, hcs, hb, hl, hm, hmm, _, hx⟩
  · simp [Value.cells] at hcs
    obtain ⟨rfl, rfl, rfl⟩ := hcs
    exact ⟨by unfold maxLen; omega, Nat.le_refl _, .inl rfl⟩
  · simp [Value.cells] at hcs
    obtain ⟨rfl, rfl, rfl⟩ := hcs
    have hlm : len ≤ m := by rw [hmm]; split <;> omega
    have each : ∀ i, i < len → ∃ v : Nat, v ≤ 255 ∧ w.cell? (a'.add i) = some (.int .u8 (v : Int)) := by
      intro i hi
      obtain ⟨cs', h1, h2⟩ := hx i (by omega)
      rw [cells_byte] at h1
      obtain ⟨_, hlen, hcell⟩ := World.cells?_some h1
      match cs', hlen with
      | [v0], _ =>
        obtain ⟨n0, e0, _, hr⟩ := DataW.trod_int Tryd.underlying5 h2
        simp at e0
        subst e0
        have c0 := hcell 0 (by omega)
        have hr' : 0 ≤ n0 ∧ n0 ≤ 255 := by
          have hr2 := Bool.and_eq_true_iff.1 hr
          exact ⟨of_decide_eq_true hr2.1, of_decide_eq_true hr2.2⟩
        obtain ⟨v, rfl⟩ := Int.eq_ofNat_of_zero_le hr'.1
        rw [Nat.mul_one] at c0
        exact ⟨v, by omega, by simpa [Addr.add] using c0⟩
    refine ⟨by omega, by omega, ?_⟩
    by_cases h0 : len = 0
    · exact .inl h0
    · obtain ⟨v, _, hc0⟩ := each 0 (by omega)
      obtain ⟨b, off, spot⟩ := a'
      have hspot : spot = none := by simpa [Addr.add] using World.cell?_spot hc0
      subst hspot
      refine .inr ⟨b, off, rfl, lt_of_cell (by simpa [Addr.add] using hc0), ?_⟩
      intro i hi
      obtain ⟨v, h1, h2⟩ := each i hi
      refine ⟨v, h1, ?_⟩
      by_cases e : i = 0
      · subst e; simpa [Addr.add] using h2
      · simpa [Addr.add, e] using h2

def RetOpen (w : World) (e : Ending) (w' : World) : Prop := ∃ g, e = .returned (.pointer (some ⟨g, 0, none⟩)) ∧ RdIn w.heap.size w' g 0 ∧ Turn [] w w'
set_option maxHeartbeats 1600000 in
theorem l1Open_any (w : World) (a : Option Addr) (n cap : Nat) (_hn : n ≤ maxLen) (hc : n ≤ cap) (hb : BytesIn w a n) :
    Calls Tryd.prog 15 #[.slice a n cap] w fun e w' => RetOpen w e w' := by
  have HB := hide hb
  clear hb
  have hrd : ∀ m : Nat, m ≤ 2000 → m ≤ n → RdIn w.heap.size (w.alloc (.cells #[.slice a m cap, .int .i64 0] 51)) w.heap.size 0 := by
    intro m hm hmn
    refine ⟨Nat.le_refl _, by simp, World.cell?_alloc_at _ _ _ _ rfl, World.frozen?_alloc_at _ _ _ _ rfl, a, m, cap, hm, World.cell?_alloc_at _ _ _ _ rfl, ?_⟩
    rcases unhide HB with h0 | ⟨b, off, rfl, hlt, hv⟩
    · exact .inl (by omega)
    · refine .inr ⟨b, off, rfl, hlt, fun i hi => ?_⟩
      obtain ⟨v, h1, h2⟩ := hv i (by omega)
      exact ⟨v, h1, ((Turn.of_alloc [] w _).cell hlt (by simp)).trans h2⟩
  by_cases h2 : (2000 : Int) < (n : Int)
  · have hrd' := hide (hrd 2000 (by omega) (by omega))
    have hcc : (2000 : Int) ≤ (cap : Int) := by omega
    have ha : ∃ b off, a = some ⟨b, off, none⟩ := by
      rcases unhide HB with h0 | ⟨b, off, rfl, _⟩
      · omega
      · exact ⟨b, off, rfl⟩
    obtain ⟨b, off, rfl⟩ := ha
    clear hrd
    go_enter Tryd.func15, Tryd.ntmps15
    go_wp2
    go_ret
    exact ⟨_, rfl, unhide hrd', Turn.of_alloc _ _ _⟩
  · have hrd' := hide (hrd n (by omega) (by omega))
    clear hrd
    go_enter Tryd.func15, Tryd.ntmps15
    go_wp2
    go_ret
    exact ⟨_, rfl, unhide hrd', Turn.of_alloc _ _ _⟩

def RetDrawn (w : World) (e : Ending) (w' : World) : Prop :=
  ∃ k cap ns, e = .returned (.slice (some ⟨k, 0, none⟩) ns.length cap) ∧ NodesAt w' k 0 ns ∧ ns.length ≤ cap ∧ k < w'.heap.size ∧ w.heap.size ≤ k ∧ ns.length ≤ 20000 ∧ ShortNames ns ∧ Turn [] w w'
set_option maxHeartbeats 1600000 in
theorem drawTreeOk_any (w : World) (a : Option Addr) (n cap : Nat) (hn : n ≤ maxLen) (hc : n ≤ cap) (hb : BytesIn w a n) :
    Calls Tryd.prog 6 #[.slice a n cap] w fun e w' => RetDrawn w e w' := by
  have HB := hide (l1Open_any w a n cap hn hc hb)
  clear hb
  go_enter Tryd.func6, Tryd.ntmps6
  go_wp2_with fail
  refine (unhide HB).mono ?_
  rintro e w1 ⟨g, rfl, hr1, ht1⟩
  have HT1 := hide ht1
  have HR1 := hide hr1
  have hs1 := ht1.size
  have hgl := hr1.lt
  have hgb := hr1.above
  clear ht1 hr1
  go_wp2_with fail
  refine (l31Body_any w1 w.heap.size g 0 (by omega) (unhide HR1)).mono ?_
  rintro e w2 ⟨⟨k, kc, ns, rfl, hrow, hn1, hn2, hsn⟩, ht2, q, hq1, hq2, hr2⟩
  have hkb := hrow.block
  have HX := hide (l31Spoil_any w2 w.heap.size g q w1.heap.size k kc ns (by omega) hr2 hrow (by omega) (by omega) hn1 (by omega) hsn)
  have HT2 := hide ((unhide HT1).join ht2 (by simp; omega))
  clear hrow hsn ht2 hr2
  go_wp2_with fail
  refine (unhide HX).mono ?_
  rintro e w3 ⟨k3, c3, n3, rfl, m3, l3, z3, b3, s3, sn3, ht3, _⟩
  have HP := hide (show RetDrawn w (.returned (.slice (some ⟨k3, 0, none⟩) n3.length c3)) w3 from ⟨k3, c3, n3, rfl, m3, l3, z3, b3, by omega, sn3, (unhide HT2).join ht3 (by simp; omega)⟩)
  clear m3 sn3 ht3
  go_wp2_with fail
  go_ret
  exact unhide HP

end Go.Proofs.YtmoepeaolacidaaDoor
