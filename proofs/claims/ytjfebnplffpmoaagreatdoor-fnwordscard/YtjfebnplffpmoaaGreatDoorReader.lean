/-
  The specification's drawing of inputs out of bytes: a law's input of bytes, the reader over it that goes on for ever, and what it picks.
-/
import Derived.Test.YtjfebnplffpmoaaGreatDoorMerged18
import Derived.Deep.RegionWith
import Derived.Deep.Slices
import Derived.Deep.QuietTactic
import Derived.BigQuiet
import Derived.ProofKit
namespace Go.Proofs.YtjfebnplffpmoaaGreatDoor
open Go.RowKit Go.Maps Go.Deep Go.ChangeShapes Go.WideShapes Go.ChangeAt

/-- a reader stands at block g, at its p-th byte; what it reads lies below block 'base' -/
structure RdIn (base : Nat) (w : World) (g p : Nat) : Prop where
  above : base ≤ g
  lt : g < w.heap.size
  pos : w.cell? ⟨g, 1, none⟩ = some (.int .i64 (p : Int))
  soft : w.frozen? ⟨g, 1, none⟩ = false
  bytes : ∃ a n cap, n ≤ 2000 ∧ w.cell? ⟨g, 0, none⟩ = some (.slice a n cap) ∧ (n = 0 ∨ ∃ b off, a = some ⟨b, off, none⟩ ∧ b < base ∧ ∀ i, i < n → ∃ v : Nat, v ≤ 255 ∧ w.cell? ⟨b, off + i, none⟩ = some (.int .u8 (v : Int)))
theorem RdIn.turn {base : Nat} {w w' : World} {g p : Nat} {S : List Nat} (h : RdIn base w g p) (ht : Turn S w w') (hg : g ∉ S) (hS : ∀ k ∈ S, base ≤ k) : RdIn base w' g p := by
  obtain ⟨a, n, cap, hn, hc, hb⟩ := h.bytes
  refine ⟨h.above, Nat.lt_of_lt_of_le h.lt ht.size, (ht.cell h.lt hg).trans h.pos, (ht.frozen h.lt hg).trans h.soft, a, n, cap, hn, (ht.cell h.lt hg).trans hc, ?_⟩
  rcases hb with hb | ⟨b, off, e, hlt, hv⟩
  · exact .inl hb
  · refine .inr ⟨b, off, e, hlt, fun i hi => ?_⟩
    obtain ⟨v, h1, h2⟩ := hv i hi
    have hb := h.lt
    have ha := h.above
    exact ⟨v, h1, (ht.cell (by omega) (fun hm => by have := hS b hm; omega)).trans h2⟩
theorem RdIn.step {base : Nat} {w : World} {g p : Nat} (h : RdIn base w g p) (q : Nat) : RdIn base (w.setCell ⟨g, 1, none⟩ (.int .i64 (q : Int))) g q := by
  obtain ⟨a, n, cap, hn, hc, hb⟩ := h.bytes
  have hlt := h.lt
  have ha := h.above
  refine ⟨h.above, by simpa using h.lt, ?_, ?_, a, n, cap, hn, ?_, ?_⟩
  · exact World.cell?_setCell_same _ _ _ h.pos
  · rw [World.frozen?_setCell]; exact h.soft
  · rw [World.cell?_setCell_other _ _ _ _ (by simp)]; exact hc
  · rcases hb with hb | ⟨b, off, e, hl, hv⟩
    · exact .inl hb
    · refine .inr ⟨b, off, e, hl, fun i hi => ?_⟩
      obtain ⟨v, h1, h2⟩ := hv i hi
      refine ⟨v, h1, ?_⟩
      rw [World.cell?_setCell_other _ _ _ _ (by intro e; have := congrArg Addr.block e; simp at this; omega)]; exact h2

theorem xor_i64_nat (a b : Nat) (ha : a < 9223372036854775808) (hb : b < 9223372036854775808) : bits .xor .i64 (a : Int) (b : Int) = ((a ^^^ b : Nat) : Int) := by
  have hx : a ^^^ b < 2 ^ 63 := Nat.xor_lt_two_pow (by omega) (by omega)
  have h1 : (BitVec.ofInt 64 (a : Int)).toNat = a := by
    rw [BitVec.ofInt_natCast, BitVec.toNat_ofNat]; exact Nat.mod_eq_of_lt (by omega)
  have h2 : (BitVec.ofInt 64 (b : Int)).toNat = b := by
    rw [BitVec.ofInt_natCast, BitVec.toNat_ofNat]; exact Nat.mod_eq_of_lt (by omega)
  show IntKind.i64.wrap ((BitVec.ofInt 64 (a : Int) ^^^ BitVec.ofInt 64 (b : Int)).toNat : Int) = _
  rw [BitVec.toNat_xor, h1, h2]
  exact wrap_small _ (by omega) (by omega)
theorem xor_nonneg (x : Int) (h0 : 0 ≤ x) (h1 : x ≤ 100000000000000) : 0 ≤ bits .xor .i64 x (x / 64) := by
  obtain ⟨n, rfl⟩ := Int.eq_ofNat_of_zero_le h0
  rw [show ((n : Int) / 64) = ((n / 64 : Nat) : Int) by omega, xor_i64_nat _ _ (by omega) (by omega)]
  exact Int.natCast_nonneg _

def RetPick (base g : Nat) (q : Nat) (m : Int) (w : World) (e : Ending) (w' : World) : Prop := ∃ v : Int, e = .returned (.int .i64 v) ∧ 0 ≤ v ∧ v < m ∧ RdIn base w' g q ∧ Turn [g] w w'

set_option maxHeartbeats 1600000 in
theorem pick_any (w : World) (base g p : Nat) (m : Int) (h1 : 1 ≤ m) (h2 : m ≤ 1048576) (hp : p ≤ 1000000000000) (hr : RdIn base w g p) :
    Calls Tryz.prog 17 #[.pointer (some ⟨g, 0, none⟩), .int .i64 m] w fun e w' => RetPick base g (p + 1) m w e w' := by
  obtain ⟨a, n, cap, hn, hc, hb⟩ := hr.bytes
  have hpos := hr.pos
  have hsoft := hr.soft
  have hr' := hr
  have HP := hide (hr.step (p + 1))
  clear hr
  have hg := hr'.lt
  have hgb := hr'.above
  clear hr'
  by_cases hn0 : n = 0
  · subst hn0
    go_enter Tryz.func17, Tryz.ntmps17
    go_wp2
    go_ret
    exact ⟨0, rfl, by omega, by omega, unhide HP, (Turn.refl _ _).setCell (by simp) _ _⟩
  · obtain ⟨b, off, rfl, hlt, hv⟩ := hb.resolve_left hn0
    have hcells : ∀ i, i < n → ∃ v : Nat, v ≤ 255 ∧ (w.setCell ⟨g, 1, none⟩ (.int .i64 ((p : Int) + 1))).cell? ⟨b, off + i, none⟩ = some (.int .u8 (v : Int)) := by
      intro i hi
      obtain ⟨v, h1, h2⟩ := hv i hi
      exact ⟨v, h1, by rw [World.cell?_setCell_other _ _ _ _ (by intro e; have := congrArg Addr.block e; simp at this; omega)]; exact h2⟩
    have HC := hide hcells
    clear hv hcells hb
    have hnz : ((n : Int) == 0) = false := by simp; omega
    by_cases hk : (p : Int) < (n : Int)
    · obtain ⟨v, hv1, hv2⟩ := unhide HC p (by omega)
      have hm0 : (0 : Int) ≤ (v : Int) % m := Int.emod_nonneg _ (by omega)
      have hm1 : (v : Int) % m < m := Int.emod_lt_of_pos _ (by omega)
      have HM := hide (And.intro hm0 hm1)
      clear hm0 hm1
      go_enter Tryz.func17, Tryz.ntmps17
      go_wp2
      go_ret
      exact ⟨_, rfl, (unhide HM).1, (unhide HM).2, unhide HP, (Turn.refl _ _).setCell (by simp) _ _⟩
    · have hpn : (0 : Int) < (n : Int) := by omega
      obtain ⟨v, hv1, hv2⟩ := unhide HC (p % n) (Nat.mod_lt _ (by omega))
      obtain ⟨u, hu1, hu2⟩ := unhide HC ((p * 7 + 3) % n) (Nat.mod_lt _ (by omega))
      have ta : (p : Int).tmod (n : Int) = ((p % n : Nat) : Int) := by rw [Int.tmod_eq_emod_of_nonneg (by omega), Int.natCast_emod]
      have tb : ((p : Int) * 7 + 3).tmod (n : Int) = (((p * 7 + 3) % n : Nat) : Int) := by
        rw [Int.tmod_eq_emod_of_nonneg (by omega), show ((p : Int) * 7 + 3) = ((p * 7 + 3 : Nat) : Int) by omega, Int.natCast_emod]
      have na : p % n < n := Nat.mod_lt _ (by omega)
      have nb : (p * 7 + 3) % n < n := Nat.mod_lt _ (by omega)
      have nc : p / n ≤ p := Nat.div_le_self _ _
      have ea : ((p : Int).tmod (n : Int)).toNat = p % n := by rw [ta]; exact Int.toNat_natCast _
      have eb : (((p : Int) * 7 + 3).tmod (n : Int)).toNat = (p * 7 + 3) % n := by rw [tb]; exact Int.toNat_natCast _
      rw [← ea] at hv2
      rw [← eb] at hu2
      have q0 : (0 : Int) ≤ (p : Int).tmod (n : Int) := by omega
      have q1 : (p : Int).tmod (n : Int) < (n : Int) := by omega
      have q2 : (0 : Int) ≤ ((p : Int) * 7 + 3).tmod (n : Int) := by omega
      have q3 : ((p : Int) * 7 + 3).tmod (n : Int) < (n : Int) := by omega
      have q4 : (0 : Int) ≤ (p : Int) / (n : Int) := by rw [← Int.natCast_ediv]; exact Int.natCast_nonneg _
      have q5 : (p : Int) / (n : Int) ≤ (p : Int) := by rw [← Int.natCast_ediv]; exact Int.ofNat_le.2 nc
      clear ea eb ta tb na nb nc
      have W1 : IntKind.i64.wrap (v : Int) = v := wrap_small _ (by omega) (by omega)
      have W2 : IntKind.i64.wrap ((v : Int) * 131) = (v : Int) * 131 := wrap_small _ (by omega) (by omega)
      have W3 : IntKind.i64.wrap ((p : Int) * 7) = (p : Int) * 7 := wrap_small _ (by omega) (by omega)
      have W4 : IntKind.i64.wrap ((p : Int) * 7 + 3) = (p : Int) * 7 + 3 := wrap_small _ (by omega) (by omega)
      have W5 : IntKind.i64.wrap (u : Int) = u := wrap_small _ (by omega) (by omega)
      have W6 : IntKind.i64.wrap ((u : Int) * 1117) = (u : Int) * 1117 := wrap_small _ (by omega) (by omega)
      have W7 : IntKind.i64.wrap ((v : Int) * 131 + (u : Int) * 1117) = (v : Int) * 131 + (u : Int) * 1117 := wrap_small _ (by omega) (by omega)
      have W8 : IntKind.i64.wrap ((p : Int) * 29) = (p : Int) * 29 := wrap_small _ (by omega) (by omega)
      have W9 : IntKind.i64.wrap ((v : Int) * 131 + (u : Int) * 1117 + (p : Int) * 29) = (v : Int) * 131 + (u : Int) * 1117 + (p : Int) * 29 := wrap_small _ (by omega) (by omega)
      have W0 : IntKind.i64.wrap ((p : Int) / (n : Int)) = (p : Int) / (n : Int) := wrap_small _ (by omega) (by omega)
      have W10 : IntKind.i64.wrap ((p : Int) / (n : Int) * 53) = (p : Int) / (n : Int) * 53 := wrap_small _ (by omega) (by omega)
      have W11 : IntKind.i64.wrap ((v : Int) * 131 + (u : Int) * 1117 + (p : Int) * 29 + (p : Int) / (n : Int) * 53) = (v : Int) * 131 + (u : Int) * 1117 + (p : Int) * 29 + (p : Int) / (n : Int) * 53 := wrap_small _ (by omega) (by omega)
      go_enter Tryz.func17, Tryz.ntmps17
      go_wp2
      go_quiet (fail)
      clear W0 W1 W2 W3 W4 W5 W6 W7 W8 W9 W10 W11 hv2 hu2
      obtain ⟨x, hx⟩ : ∃ x, x = (v : Int) * 131 + (u : Int) * 1117 + (p : Int) * 29 + (p : Int) / (n : Int) * 53 := ⟨_, rfl⟩
      have hx0 : 0 ≤ x := by omega
      have hx1 : x ≤ 100000000000000 := by omega
      rw [← hx]
      clear hx q0 q1 q2 q3 q4 q5
      have hb0 := xor_nonneg x hx0 hx1
      have HM := hide (show 0 ≤ (bits BinOp.xor IntKind.i64 x (x / 64)).tmod m ∧ (bits BinOp.xor IntKind.i64 x (x / 64)).tmod m < m by
        rw [Int.tmod_eq_emod_of_nonneg hb0]
        exact ⟨Int.emod_nonneg _ (by omega), Int.emod_lt_of_pos _ (by omega)⟩)
      clear hb0
      go_wp2
      go_ret
      exact ⟨_, rfl, (unhide HM).1, (unhide HM).2, (unhide HP).turn ((Turn.refl [] _).dn _) (by simp) (by simp), ((Turn.refl _ _).setCell (by simp) _ _).dn _⟩

/-- bytes lie there -/
def BytesIn (w : World) (a : Option Addr) (n : Nat) : Prop :=
  n = 0 ∨ ∃ b off, a = some ⟨b, off, none⟩ ∧ b < w.heap.size ∧ ∀ i, i < n → ∃ v : Nat, v ≤ 255 ∧ w.cell? ⟨b, off + i, none⟩ = some (.int .u8 (v : Int))

theorem cells_byte : Tryz.prog.cellsOf 5 = 1 := by kernel_rfl
theorem open_bytes {H : Type} {enc : TypeId × Value → H} {w : World} {base : Nat} {spare : Nat → Bool} {held : Bool} {a : Option Addr} {len cap : Nat} {d : DataW H} {p : List MemPlace}
    (h : DataW.Trod enc Tryz.prog w base spare held 22 (.slice a len cap) d p) :
    len ≤ maxLen ∧ len ≤ cap ∧ BytesIn w a len := by
  obtain ⟨fuel, hf⟩ := h
  rcases open_slice Tryz.underlying22 hf with ⟨hcs, _⟩ | ⟨a', len', cap', m, n, D, Pl, hcs, hb, hl, hm, hmm, _, hx⟩
  · simp [Value.cells] at hcs
    obtain ⟨rfl, rfl, rfl⟩ := hcs
    exact ⟨by unfold maxLen; omega, Nat.le_refl _, .inl rfl⟩
  · simp [Value.cells] at hcs
    obtain ⟨rfl, rfl, rfl⟩ := hcs
    have hlm : len ≤ m := by rw [hmm]; split <;> omega
    have each : ∀ i, i < len → ∃ v : Nat, v ≤ 255 ∧ w.cell? (a'.add i) = some (.int .u8 (v : Int)) := by
      intro i hi
      obtain ⟨cs', h1, h2⟩ := hx i (by omega)
      rw [cells_byte] at h1
      obtain ⟨_, hlen, hcell⟩ := World.cells?_some h1
      match cs', hlen with
      | [v0], _ =>
        obtain ⟨n0, e0, _, hr⟩ := DataW.trod_int Tryz.underlying5 h2
        simp at e0
        subst e0
        have c0 := hcell 0 (by omega)
        have hr' : 0 ≤ n0 ∧ n0 ≤ 255 := by
          have hr2 := Bool.and_eq_true_iff.1 hr
          exact ⟨of_decide_eq_true hr2.1, of_decide_eq_true hr2.2⟩
        obtain ⟨v, rfl⟩ := Int.eq_ofNat_of_zero_le hr'.1
        rw [Nat.mul_one] at c0
        exact ⟨v, by omega, by simpa [Addr.add] using c0⟩
    refine ⟨by omega, by omega, ?_⟩
    by_cases h0 : len = 0
    · exact .inl h0
    · obtain ⟨v, _, hc0⟩ := each 0 (by omega)
      obtain ⟨b, off, spot⟩ := a'
      have hspot : spot = none := by simpa [Addr.add] using World.cell?_spot hc0
      subst hspot
      refine .inr ⟨b, off, rfl, lt_of_cell0 (by simpa [Addr.add] using hc0), ?_⟩
      intro i hi
      obtain ⟨v, h1, h2⟩ := each i hi
      refine ⟨v, h1, ?_⟩
      by_cases e : i = 0
      · subst e; simpa [Addr.add] using h2
      · simpa [Addr.add, e] using h2

def RetOpen (w : World) (e : Ending) (w' : World) : Prop := ∃ g, e = .returned (.pointer (some ⟨g, 0, none⟩)) ∧ RdIn w.heap.size w' g 0 ∧ Turn [] w w'
set_option maxHeartbeats 1600000 in
theorem l1Open_any (w : World) (a : Option Addr) (n cap : Nat) (_hn : n ≤ maxLen) (hc : n ≤ cap) (hb : BytesIn w a n) :
    Calls Tryz.prog 9 #[.slice a n cap] w fun e w' => RetOpen w e w' := by
  have HB := hide hb
  clear hb
  have hrd : ∀ m : Nat, m ≤ 2000 → m ≤ n → RdIn w.heap.size (w.alloc (.cells #[.slice a m cap, .int .i64 0] 51)) w.heap.size 0 := by
    intro m hm hmn
    refine ⟨Nat.le_refl _, by simp, World.cell?_alloc_at _ _ _ _ rfl, World.frozen?_alloc_at _ _ _ _ rfl, a, m, cap, hm, World.cell?_alloc_at _ _ _ _ rfl, ?_⟩
    rcases unhide HB with h0 | ⟨b, off, rfl, hlt, hv⟩
    · exact .inl (by omega)
    · refine .inr ⟨b, off, rfl, hlt, fun i hi => ?_⟩
      obtain ⟨v, h1, h2⟩ := hv i (by omega)
      exact ⟨v, h1, ((Turn.of_alloc [] w _).cell hlt (by simp)).trans h2⟩
  by_cases h2 : (2000 : Int) < (n : Int)
  · have hrd' := hide (hrd 2000 (by omega) (by omega))
    have hcc : (2000 : Int) ≤ (cap : Int) := by omega
    have ha : ∃ b off, a = some ⟨b, off, none⟩ := by
      rcases unhide HB with h0 | ⟨b, off, rfl, _⟩
      · omega
      · exact ⟨b, off, rfl⟩
    obtain ⟨b, off, rfl⟩ := ha
    clear hrd
    go_enter Tryz.func9, Tryz.ntmps9
    go_wp2
    go_ret
    exact ⟨_, rfl, unhide hrd', Turn.of_alloc _ _ _⟩
  · have hrd' := hide (hrd n (by omega) (by omega))
    clear hrd
    go_enter Tryz.func9, Tryz.ntmps9
    go_wp2
    go_ret
    exact ⟨_, rfl, unhide hrd', Turn.of_alloc _ _ _⟩

end Go.Proofs.YtjfebnplffpmoaaGreatDoor
