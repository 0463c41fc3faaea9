/-
  The specification's drawing of inputs out of bytes: a law's input of bytes, the reader over it that goes on for ever, and what it picks.
-/
/-
  The specification's drawing of inputs out of bytes: a reader that goes on for ever, and what it picks.
-/
/-
  The specification's drawing of lists of nodes: whatever is drawn is a list of nodes in new memory, not too long, with short names.
-/
import Derived.Test.YtkfhokeoooafnaaGreatDoorMerged5
import Derived.Deep.RegionWith
import Derived.Deep.Slices
import Derived.Deep.QuietTactic
import Derived.BigQuiet
import Derived.ProofKit
namespace Go.Proofs.YtkfhokeoooafnaaGreatDoor
open Go.RowKit Go.Maps Go.Deep Go.ChangeShapes Go.WideShapes Go.ChangeAt

/-- a reader stands at block g, at its p-th byte; what it reads lies below block 'base' -/
structure RdIn (base : Nat) (w : World) (g p : Nat) : Prop where
  above : base ≤ g
  lt : g < w.heap.size
  pos : w.cell? ⟨g, 1, none⟩ = some (.int .i64 (p : Int))
  soft : w.frozen? ⟨g, 1, none⟩ = false
  bytes : ∃ a n cap, n ≤ 2000 ∧ w.cell? ⟨g, 0, none⟩ = some (.slice a n cap) ∧ (n = 0 ∨ ∃ b off, a = some ⟨b, off, none⟩ ∧ b < base ∧ ∀ i, i < n → ∃ v : Nat, v ≤ 255 ∧ w.cell? ⟨b, off + i, none⟩ = some (.int .u8 (v : Int)))
theorem RdIn.turn {base : Nat} {w w' : World} {g p : Nat} {S : List Nat} (h : RdIn base w g p) (ht : Turn S w w') (hg : g ∉ S) (hS : ∀ k ∈ S, base ≤ k) : RdIn base w' g p := by
  obtain ⟨a, n, cap, hn, hc, hb⟩ := h.bytes
  refine ⟨h.above, Nat.lt_of_lt_of_le h.lt ht.size, (ht.cell h.lt hg).trans h.pos, (ht.frozen h.lt hg).trans h.soft, a, n, cap, hn, (ht.cell h.lt hg).trans hc, ?_⟩
  rcases hb with hb | ⟨b, off, e, hlt, hv⟩
  · exact .inl hb
  · refine .inr ⟨b, off, e, hlt, fun i hi => ?_⟩
    obtain ⟨v, h1, h2⟩ := hv i hi
    have hb := h.lt
    have ha := h.above
    exact ⟨v, h1, (ht.cell (by omega) (fun hm => by have := hS b hm; omega)).trans h2⟩
theorem RdIn.step {base : Nat} {w : World} {g p : Nat} (h : RdIn base w g p) (q : Nat) : RdIn base (w.setCell ⟨g, 1, none⟩ (.int .i64 (q : Int))) g q := by
  obtain ⟨a, n, cap, hn, hc, hb⟩ := h.bytes
  have hlt := h.lt
  have ha := h.above
  refine ⟨h.above, by simpa using h.lt, ?_, ?_, a, n, cap, hn, ?_, ?_⟩
  · exact World.cell?_setCell_same _ _ _ h.pos
  · rw [World.frozen?_setCell]; exact h.soft
  · rw [World.cell?_setCell_other _ _ _ _ (by simp)]; exact hc
  · rcases hb with hb | ⟨b, off, e, hl, hv⟩
    · exact .inl hb
    · refine .inr ⟨b, off, e, hl, fun i hi => ?_⟩
      obtain ⟨v, h1, h2⟩ := hv i hi
      refine ⟨v, h1, ?_⟩
      rw [World.cell?_setCell_other _ _ _ _ (by intro e; have := congrArg Addr.block e; simp at this; omega)]; exact h2

theorem xor_i64_nat (a b : Nat) (ha : a < 9223372036854775808) (hb : b < 9223372036854775808) : bits .xor .i64 (a : Int) (b : Int) = ((a ^^^ b : Nat) : Int) := by
  have hx : a ^^^ b < 2 ^ 63 := Nat.xor_lt_two_pow (by omega) (by omega)
  have h1 : (BitVec.ofInt 64 (a : Int)).toNat = a := by
    rw [BitVec.ofInt_natCast, BitVec.toNat_ofNat]; exact Nat.mod_eq_of_lt (by omega)
  have h2 : (BitVec.ofInt 64 (b : Int)).toNat = b := by
    rw [BitVec.ofInt_natCast, BitVec.toNat_ofNat]; exact Nat.mod_eq_of_lt (by omega)
  show IntKind.i64.wrap ((BitVec.ofInt 64 (a : Int) ^^^ BitVec.ofInt 64 (b : Int)).toNat : Int) = _
  rw [BitVec.toNat_xor, h1, h2]
  exact wrap_small _ (by omega) (by omega)
theorem xor_nonneg (x : Int) (h0 : 0 ≤ x) (h1 : x ≤ 100000000000000) : 0 ≤ bits .xor .i64 x (x / 64) := by
  obtain ⟨n, rfl⟩ := Int.eq_ofNat_of_zero_le h0
  rw [show ((n : Int) / 64) = ((n / 64 : Nat) : Int) by omega, xor_i64_nat _ _ (by omega) (by omega)]
  exact Int.natCast_nonneg _

def RetPick (base g : Nat) (q : Nat) (m : Int) (w : World) (e : Ending) (w' : World) : Prop := ∃ v : Int, e = .returned (.int .i64 v) ∧ 0 ≤ v ∧ v < m ∧ RdIn base w' g q ∧ Turn [g] w w'

set_option maxHeartbeats 1600000 in
theorem pick_any (w : World) (base g p : Nat) (m : Int) (h1 : 1 ≤ m) (h2 : m ≤ 1048576) (hp : p ≤ 1000000000000) (hr : RdIn base w g p) :
    Calls Tryz.prog 27 #[.pointer (some ⟨g, 0, none⟩), .int .i64 m] w fun e w' => RetPick base g (p + 1) m w e w' := by
  obtain ⟨a, n, cap, hn, hc, hb⟩ := hr.bytes
  have hpos := hr.pos
  have hsoft := hr.soft
  have hr' := hr
  have HP := hide (hr.step (p + 1))
  clear hr
  have hg := hr'.lt
  have hgb := hr'.above
  clear hr'
  by_cases hn0 : n = 0
  · subst hn0
    go_enter Tryz.func27, Tryz.ntmps27
    go_wp2
    go_ret
    exact ⟨0, rfl, by omega, by omega, unhide HP, (Turn.refl _ _).setCell (by simp) _ _⟩
  · obtain ⟨b, off, rfl, hlt, hv⟩ := hb.resolve_left hn0
    have hcells : ∀ i, i < n → ∃ v : Nat, v ≤ 255 ∧ (w.setCell ⟨g, 1, none⟩ (.int .i64 ((p : Int) + 1))).cell? ⟨b, off + i, none⟩ = some (.int .u8 (v : Int)) := by
      intro i hi
      obtain ⟨v, h1, h2⟩ := hv i hi
      exact ⟨v, h1, by rw [World.cell?_setCell_other _ _ _ _ (by intro e; have := congrArg Addr.block e; simp at this; omega)]; exact h2⟩
    have HC := hide hcells
    clear hv hcells hb
    have hnz : ((n : Int) == 0) = false := by simp; omega
    by_cases hk : (p : Int) < (n : Int)
    · obtain ⟨v, hv1, hv2⟩ := unhide HC p (by omega)
      have hm0 : (0 : Int) ≤ (v : Int) % m := Int.emod_nonneg _ (by omega)
      have hm1 : (v : Int) % m < m := Int.emod_lt_of_pos _ (by omega)
      have HM := hide (And.intro hm0 hm1)
      clear hm0 hm1
      go_enter Tryz.func27, Tryz.ntmps27
      go_wp2
      go_ret
      exact ⟨_, rfl, (unhide HM).1, (unhide HM).2, unhide HP, (Turn.refl _ _).setCell (by simp) _ _⟩
    · have hpn : (0 : Int) < (n : Int) := by omega
      obtain ⟨v, hv1, hv2⟩ := unhide HC (p % n) (Nat.mod_lt _ (by omega))
      obtain ⟨u, hu1, hu2⟩ := unhide HC ((p * 7 + 3) % n) (Nat.mod_lt _ (by omega))
      have ta : (p : Int).tmod (n : Int) = ((p % n : Nat) : Int) := by rw [Int.tmod_eq_emod_of_nonneg (by omega), Int.natCast_emod]
      have tb : ((p : Int) * 7 + 3).tmod (n : Int) = (((p * 7 + 3) % n : Nat) : Int) := by
        rw [Int.tmod_eq_emod_of_nonneg (by omega), show ((p : Int) * 7 + 3) = ((p * 7 + 3 : Nat) : Int) by omega, Int.natCast_emod]
      have na : p % n < n := Nat.mod_lt _ (by omega)
      have nb : (p * 7 + 3) % n < n := Nat.mod_lt _ (by omega)
      have nc : p / n ≤ p := Nat.div_le_self _ _
      have ea : ((p : Int).tmod (n : Int)).toNat = p % n := by rw [ta]; exact Int.toNat_natCast _
      have eb : (((p : Int) * 7 + 3).tmod (n : Int)).toNat = (p * 7 + 3) % n := by rw [tb]; exact Int.toNat_natCast _
      rw [← ea] at hv2
      rw [← eb] at hu2
      have q0 : (0 : Int) ≤ (p : Int).tmod (n : Int) := by omega
      have q1 : (p : Int).tmod (n : Int) < (n : Int) := by omega
      have q2 : (0 : Int) ≤ ((p : Int) * 7 + 3).tmod (n : Int) := by omega
      have q3 : ((p : Int) * 7 + 3).tmod (n : Int) < (n : Int) := by omega
      have q4 : (0 : Int) ≤ (p : Int) / (n : Int) := by rw [← Int.natCast_ediv]; exact Int.natCast_nonneg _
      have q5 : (p : Int) / (n : Int) ≤ (p : Int) := by rw [← Int.natCast_ediv]; exact Int.ofNat_le.2 nc
      clear ea eb ta tb na nb nc
      have W1 : IntKind.i64.wrap (v : Int) = v := wrap_small _ (by omega) (by omega)
      have W2 : IntKind.i64.wrap ((v : Int) * 131) = (v : Int) * 131 := wrap_small _ (by omega) (by omega)
      have W3 : IntKind.i64.wrap ((p : Int) * 7) = (p : Int) * 7 := wrap_small _ (by omega) (by omega)
      have W4 : IntKind.i64.wrap ((p : Int) * 7 + 3) = (p : Int) * 7 + 3 := wrap_small _ (by omega) (by omega)
      have W5 : IntKind.i64.wrap (u : Int) = u := wrap_small _ (by omega) (by omega)
      have W6 : IntKind.i64.wrap ((u : Int) * 1117) = (u : Int) * 1117 := wrap_small _ (by omega) (by omega)
      have W7 : IntKind.i64.wrap ((v : Int) * 131 + (u : Int) * 1117) = (v : Int) * 131 + (u : Int) * 1117 := wrap_small _ (by omega) (by omega)
      have W8 : IntKind.i64.wrap ((p : Int) * 29) = (p : Int) * 29 := wrap_small _ (by omega) (by omega)
      have W9 : IntKind.i64.wrap ((v : Int) * 131 + (u : Int) * 1117 + (p : Int) * 29) = (v : Int) * 131 + (u : Int) * 1117 + (p : Int) * 29 := wrap_small _ (by omega) (by omega)
      have W0 : IntKind.i64.wrap ((p : Int) / (n : Int)) = (p : Int) / (n : Int) := wrap_small _ (by omega) (by omega)
      have W10 : IntKind.i64.wrap ((p : Int) / (n : Int) * 53) = (p : Int) / (n : Int) * 53 := wrap_small _ (by omega) (by omega)
      have W11 : IntKind.i64.wrap ((v : Int) * 131 + (u : Int) * 1117 + (p : Int) * 29 + (p : Int) / (n : Int) * 53) = (v : Int) * 131 + (u : Int) * 1117 + (p : Int) * 29 + (p : Int) / (n : Int) * 53 := wrap_small _ (by omega) (by omega)
      go_enter Tryz.func27, Tryz.ntmps27
      go_wp2
      go_quiet (fail)
      clear W0 W1 W2 W3 W4 W5 W6 W7 W8 W9 W10 W11 hv2 hu2
      obtain ⟨x, hx⟩ : ∃ x, x = (v : Int) * 131 + (u : Int) * 1117 + (p : Int) * 29 + (p : Int) / (n : Int) * 53 := ⟨_, rfl⟩
      have hx0 : 0 ≤ x := by omega
      have hx1 : x ≤ 100000000000000 := by omega
      rw [← hx]
      clear hx q0 q1 q2 q3 q4 q5
      have hb0 := xor_nonneg x hx0 hx1
      have HM := hide (show 0 ≤ (bits BinOp.xor IntKind.i64 x (x / 64)).tmod m ∧ (bits BinOp.xor IntKind.i64 x (x / 64)).tmod m < m by
        rw [Int.tmod_eq_emod_of_nonneg hb0]
        exact ⟨Int.emod_nonneg _ (by omega), Int.emod_lt_of_pos _ (by omega)⟩)
      clear hb0
      go_wp2
      go_ret
      exact ⟨_, rfl, (unhide HM).1, (unhide HM).2, (unhide HP).turn ((Turn.refl [] _).dn _) (by simp) (by simp), ((Turn.refl _ _).setCell (by simp) _ _).dn _⟩

/-- bytes lie there -/
def BytesIn (w : World) (a : Option Addr) (n : Nat) : Prop :=
  n = 0 ∨ ∃ b off, a = some ⟨b, off, none⟩ ∧ b < w.heap.size ∧ ∀ i, i < n → ∃ v : Nat, v ≤ 255 ∧ w.cell? ⟨b, off + i, none⟩ = some (.int .u8 (v : Int))

theorem cells_byte : Tryz.prog.cellsOf 5 = 1 := by kernel_rfl
theorem open_bytes {H : Type} {enc : TypeId × Value → H} {w : World} {base : Nat} {spare : Nat → Bool} {held : Bool} {a : Option Addr} {len cap : Nat} {d : DataW H} {p : List MemPlace}
    (h : DataW.Trod enc Tryz.prog w base spare held 22 (.slice a len cap) d p) :
    len ≤ maxLen ∧ len ≤ cap ∧ BytesIn w a len := by
  obtain ⟨fuel, hf⟩ := h
  rcases open_slice Tryz.underlying22 hf with ⟨hcs, _⟩ | ⟨a', len', cap', m, n, D, Pl, hcs, hb, hl, hm, hmm, _, hx⟩
  · simp [Value.cells] at hcs
    obtain ⟨rfl, rfl, rfl⟩ := hcs
    exact ⟨by unfold maxLen; omega, Nat.le_refl _, .inl rfl⟩
  · simp [Value.cells] at hcs
    obtain ⟨rfl, rfl, rfl⟩ := hcs
    have hlm : len ≤ m := by rw [hmm]; split <;> omega
    have each : ∀ i, i < len → ∃ v : Nat, v ≤ 255 ∧ w.cell? (a'.add i) = some (.int .u8 (v : Int)) := by
      intro i hi
      obtain ⟨cs', h1, h2⟩ := hx i (by omega)
      rw [cells_byte] at h1
      obtain ⟨_, hlen, hcell⟩ := World.cells?_some h1
      match cs', hlen with
      | [v0], _ =>
        obtain ⟨n0, e0, _, hr⟩ := DataW.trod_int Tryz.underlying5 h2
        simp at e0
        subst e0
        have c0 := hcell 0 (by omega)
        have hr' : 0 ≤ n0 ∧ n0 ≤ 255 := by
          have hr2 := Bool.and_eq_true_iff.1 hr
          exact ⟨of_decide_eq_true hr2.1, of_decide_eq_true hr2.2⟩
        obtain ⟨v, rfl⟩ := Int.eq_ofNat_of_zero_le hr'.1
        rw [Nat.mul_one] at c0
        exact ⟨v, by omega, by simpa [Addr.add] using c0⟩
    refine ⟨by omega, by omega, ?_⟩
    by_cases h0 : len = 0
    · exact .inl h0
    · obtain ⟨v, _, hc0⟩ := each 0 (by omega)
      obtain ⟨b, off, spot⟩ := a'
      have hspot : spot = none := by simpa [Addr.add] using World.cell?_spot hc0
      subst hspot
      refine .inr ⟨b, off, rfl, lt_of_cell0 (by simpa [Addr.add] using hc0), ?_⟩
      intro i hi
      obtain ⟨v, h1, h2⟩ := each i hi
      refine ⟨v, h1, ?_⟩
      by_cases e : i = 0
      · subst e; simpa [Addr.add] using h2
      · simpa [Addr.add, e] using h2

def RetOpen (w : World) (e : Ending) (w' : World) : Prop := ∃ g, e = .returned (.pointer (some ⟨g, 0, none⟩)) ∧ RdIn w.heap.size w' g 0 ∧ Turn [] w w'
set_option maxHeartbeats 1600000 in
theorem l1Open_any (w : World) (a : Option Addr) (n cap : Nat) (_hn : n ≤ maxLen) (hc : n ≤ cap) (hb : BytesIn w a n) :
    Calls Tryz.prog 13 #[.slice a n cap] w fun e w' => RetOpen w e w' := by
  have HB := hide hb
  clear hb
  have hrd : ∀ m : Nat, m ≤ 2000 → m ≤ n → RdIn w.heap.size (w.alloc (.cells #[.slice a m cap, .int .i64 0] 64)) w.heap.size 0 := by
    intro m hm hmn
    refine ⟨Nat.le_refl _, by simp, World.cell?_alloc_at _ _ _ _ rfl, World.frozen?_alloc_at _ _ _ _ rfl, a, m, cap, hm, World.cell?_alloc_at _ _ _ _ rfl, ?_⟩
    rcases unhide HB with h0 | ⟨b, off, rfl, hlt, hv⟩
    · exact .inl (by omega)
    · refine .inr ⟨b, off, rfl, hlt, fun i hi => ?_⟩
      obtain ⟨v, h1, h2⟩ := hv i (by omega)
      exact ⟨v, h1, ((Turn.of_alloc [] w _).cell hlt (by simp)).trans h2⟩
  by_cases h2 : (2000 : Int) < (n : Int)
  · have hrd' := hide (hrd 2000 (by omega) (by omega))
    have hcc : (2000 : Int) ≤ (cap : Int) := by omega
    have ha : ∃ b off, a = some ⟨b, off, none⟩ := by
      rcases unhide HB with h0 | ⟨b, off, rfl, _⟩
      · omega
      · exact ⟨b, off, rfl⟩
    obtain ⟨b, off, rfl⟩ := ha
    clear hrd
    go_enter Tryz.func13, Tryz.ntmps13
    go_wp2
    go_ret
    exact ⟨_, rfl, unhide hrd', Turn.of_alloc _ _ _⟩
  · have hrd' := hide (hrd n (by omega) (by omega))
    clear hrd
    go_enter Tryz.func13, Tryz.ntmps13
    go_wp2
    go_ret
    exact ⟨_, rfl, unhide hrd', Turn.of_alloc _ _ _⟩

end Go.Proofs.YtkfhokeoooafnaaGreatDoor



namespace Go.Proofs.YtkfhokeoooafnaaGreatDoor
open Go.RowKit Go.Maps Go.Deep

def nodeCells (x : NodeV) : List Value := [.int .i64 x.kind, .int .i64 x.num, .string x.name, .int .i64 x.kids]
def cellsL (ns : List NodeV) : List Value := ns.flatMap nodeCells
theorem cellsL_len (ns : List NodeV) : (cellsL ns).length = ns.length * 4 := by
  induction ns with
  | nil => rfl
  | cons x t ih => simp only [cellsL, List.flatMap_cons, List.length_append, List.length_cons] at *; simp only [nodeCells, List.length_cons, List.length_nil]; omega
theorem cellsL_app (a b : List NodeV) : cellsL (a ++ b) = cellsL a ++ cellsL b := by simp [cellsL]
theorem cellsL_at (ns : List NodeV) : ∀ i (h : i < ns.length), (cellsL ns)[i * 4]? = some (.int .i64 ns[i].kind) ∧ (cellsL ns)[i * 4 + 1]? = some (.int .i64 ns[i].num) ∧ (cellsL ns)[i * 4 + 2]? = some (.string ns[i].name) ∧ (cellsL ns)[i * 4 + 3]? = some (.int .i64 ns[i].kids) := by
  induction ns with
  | nil => intro i h; exact absurd h (Nat.not_lt_zero _)
  | cons x t ih =>
    intro i h
    have e : cellsL (x :: t) = nodeCells x ++ cellsL t := rfl
    cases i with
    | zero => rw [e]; exact ⟨rfl, rfl, rfl, rfl⟩
    | succ i =>
      obtain ⟨a, b, c, d⟩ := ih i (by simpa using h)
      rw [e]
      have hl : (nodeCells x).length = 4 := rfl
      refine ⟨?_, ?_, ?_, ?_⟩
      all_goals
        rw [List.getElem?_append_right (by rw [hl]; omega), hl]
        simp only [List.getElem_cons_succ]
      · rw [show (i + 1) * 4 - 4 = i * 4 by omega]; exact a
      · rw [show (i + 1) * 4 + 1 - 4 = i * 4 + 1 by omega]; exact b
      · rw [show (i + 1) * 4 + 2 - 4 = i * 4 + 2 by omega]; exact c
      · rw [show (i + 1) * 4 + 3 - 4 = i * 4 + 3 by omega]; exact d
theorem cellsL_one (ns : List NodeV) : ∀ u ∈ cellsL ns, u.oneCell' = true := by
  intro u hu
  simp only [cellsL, List.mem_flatMap, nodeCells, List.mem_cons, List.not_mem_nil, or_false] at hu
  obtain ⟨x, _, rfl | rfl | rfl | rfl⟩ := hu <;> rfl

/-- a slice of the call's own, from its row's head on, holds these nodes -/
def NodeRow (B : Nat) (w : World) (k cap : Nat) (ns : List NodeV) : Prop := w.ownsRow B 51 4 (.slice (some ⟨k, 0, none⟩) ns.length cap) ns.length (cellsL ns)
def ShortNames (ns : List NodeV) : Prop := ∀ n ∈ ns, n.name.size ≤ 16
theorem NodeRow.nodesAt {B : Nat} {w : World} {k cap : Nat} {ns : List NodeV} (h : NodeRow B w k cap ns) : NodesAt w k 0 ns := by
  intro i hi
  obtain ⟨a, b, c, d⟩ := cellsL_at ns i hi
  refine ⟨?_, ?_, ?_, ?_⟩
  all_goals
    rw [Nat.zero_add, World.ownsRow.cellAt h _ (by omega)]
    assumption
theorem NodeRow.block {B : Nat} {w : World} {k cap : Nat} {ns : List NodeV} (h : NodeRow B w k cap ns) : B ≤ k ∧ k < w.heap.size := World.ownsRow.lt h k rfl
theorem NodeRow.news {B : Nat} {w : World} {k cap : Nat} {ns : List NodeV} (h : NodeRow B w k cap ns) : ∀ j u, (cellsL ns)[j]? = some u → w.cell? ((⟨k, 0, none⟩ : Addr).add j) = some u := World.ownsRow.cells h rfl
theorem NodeRow.turn {B : Nat} {w w' : World} {k cap : Nat} {ns : List NodeV} {S : List Nat} (h : NodeRow B w k cap ns) (ht : Turn S w w') (hk : k ∉ S) : NodeRow B w' k cap ns := by
  refine ⟨h.1, ?_⟩
  rcases h.2 with ⟨h', _⟩ | ⟨g', cap', cur, h', h1, h2, h3⟩
  · simp at h'
  · refine .inr ⟨g', cap', cur, h', h1, ?_, h3⟩
    simp only [Value.slice.injEq, Option.some.injEq, Addr.mk.injEq, and_true, true_and] at h'
    obtain ⟨rfl, rfl⟩ := h'
    rw [ht.block k (Array.getElem?_eq_some_iff.1 h2).1 hk]; exact h2
theorem NodeRow.mono {B B' : Nat} {w : World} {k cap : Nat} {ns : List NodeV} (h : NodeRow B w k cap ns) (hB : B' ≤ B) : NodeRow B' w k cap ns := by
  refine ⟨h.1, ?_⟩
  rcases h.2 with h' | ⟨g', cap', cur, h', h1, h2⟩
  · exact .inl h'
  · exact .inr ⟨g', cap', cur, h', Nat.le_trans hB h1, h2⟩
theorem NodeRow.lit {B : Nat} (w : World) (ns : List NodeV) (hB : B ≤ w.heap.size) (hn : ns.length ≤ 1048576) : NodeRow B (w.alloc (.cells (cellsL ns).toArray 51)) w.heap.size ns.length ns := by
  have := World.ownsRow_lit (base := B) (e := 51) (size := 4) w (cellsL ns).toArray ns.length hB (by unfold maxLen; omega) (by simp [cellsL_len])
  exact this
theorem NodeRow.lit' {B : Nat} (n : Nat) (w : World) (ns : List NodeV) (hn : n = w.heap.size) (hB : B ≤ w.heap.size) (hl : ns.length ≤ 1048576) : NodeRow B (w.alloc (.cells (cellsL ns).toArray 51)) n ns.length ns := by
  subst hn; exact NodeRow.lit w ns hB hl
/-- what an append leaves is such a slice again -/
theorem NodeRow.of {B : Nat} {w : World} {v : Value} {n : Nat} {ns : List NodeV} (h : w.ownsRow B 51 4 v n (cellsL ns)) (h0 : 1 ≤ n) : ∃ k cap, v = .slice (some ⟨k, 0, none⟩) ns.length cap ∧ NodeRow B w k cap ns := by
  have hn : n = ns.length := by have := h.1; rw [cellsL_len] at this; omega
  subst hn
  rcases h.2 with ⟨_, h'⟩ | ⟨g', cap', cur, rfl, h1, h2⟩
  · omega
  · exact ⟨g', cap', rfl, h⟩

def RetNodes (B K : Nat) (e : Ending) (w' : World) : Prop := ∃ k cap ns, e = .returned (.slice (some ⟨k, 0, none⟩) ns.length cap) ∧ NodeRow B w' k cap ns ∧ 1 ≤ ns.length ∧ ns.length ≤ K ∧ ShortNames ns

def RetName (base g q : Nat) (w : World) (e : Ending) (w' : World) : Prop := ∃ s : ByteArray, e = .returned (.string s) ∧ s.size ≤ 16 ∧ RdIn base w' g q ∧ Turn [g] w w'
theorem str_cells (w : World) (l : List ByteArray) (t : TypeId) (j : Nat) (hj : j < l.length) : (w.alloc (.cells (l.map Value.string).toArray t)).cell? ⟨w.heap.size, j, none⟩ = some (.string l[j]) := by
  rw [World.cell?_alloc_at _ _ _ _ rfl]
  simp [hj]
theorem int_cells (w : World) (l : List Int) (t : TypeId) (j : Nat) (hj : j < l.length) : (w.alloc (.cells (l.map (Value.int .i64)).toArray t)).cell? ⟨w.heap.size, j, none⟩ = some (.int .i64 l[j]) := by
  rw [World.cell?_alloc_at _ _ _ _ rfl]
  simp [hj]
def sixNames : List ByteArray := [⟨#[120]⟩, ⟨#[121]⟩, ⟨#[122]⟩, ⟨#[107]⟩, ⟨#[105, 110, 50]⟩, ⟨#[97, 98, 99, 100, 101, 102, 103, 104]⟩]
theorem six_short : ∀ s ∈ sixNames, s.size ≤ 16 := by decide

set_option maxHeartbeats 800000 in
theorem l31Name_any (w : World) (base g p : Nat) (hp : p ≤ 1000000000000) (hr : RdIn base w g p) :
    Calls Tryz.prog 56 #[.pointer (some ⟨g, 0, none⟩)] w fun e w' => RetName base g (p + 1) w e w' := by
  have hlt := hr.lt
  have hA : Turn [] w (w.alloc (.cells (sixNames.map Value.string).toArray 9)) := (Turn.refl _ _).alloc _
  have HR := hide (hr.turn hA (by simp) (by simp))
  have HA := hide hA
  clear hr hA
  go_enter Tryz.func56, Tryz.ntmps56
  go_wp2_with fail
  refine (pick_any _ base g p 6 (by omega) (by omega) hp (unhide HR)).mono ?_
  rintro e w1 ⟨v, rfl, hv0, hv6, hr1, ht1⟩
  obtain ⟨j, rfl⟩ := Int.eq_ofNat_of_zero_le hv0
  have hj : j < sixNames.length := by show j < 6; omega
  have hcell : w1.cell? ⟨w.heap.size, j, none⟩ = some (.string sixNames[j]) := by
    rw [ht1.cell (by simp) (by simp; omega)]
    exact str_cells w sixNames _ j hj
  have hsz := hide (six_short _ (List.getElem_mem hj))
  have HR1 := hide hr1
  have HT1 := hide ht1
  clear hr1 ht1
  go_wp2_with fail
  go_ret
  exact ⟨_, rfl, unhide hsz, unhide HR1, ((unhide HA).mono (by simp)).trans (unhide HT1)⟩

theorem Turn.grown {S : List Nat} {a b c : World} {row : Option Nat} (h : Turn S a b) (hg : b.grownBy c row) (hr : ∀ k, row = some k → k ∈ S ∨ a.heap.size ≤ k) : Turn S a c :=
  ⟨hg.os.trans h.os, hg.tape.trans h.tape, hg.output.trans h.output, Nat.le_trans h.size hg.size,
    fun i hi hS => (hg.block i (Nat.lt_of_lt_of_le hi h.size) (fun e => (hr i e.symm).elim hS (fun e => by omega))).trans (h.block i hi hS)⟩

def RetNum (base g p : Nat) (w : World) (e : Ending) (w' : World) : Prop := ∃ (v : Int) (q : Nat), e = .returned (.int .i64 v) ∧ p ≤ q ∧ q ≤ p + 2 ∧ RdIn base w' g q ∧ Turn [g] w w'
def eightNums : List Int := [0, 64, 65, 999999999999999999, 999999999999999998, 3037000500, 4294967296, 100]

set_option maxHeartbeats 800000 in
theorem l31Num_any (w : World) (base g p : Nat) (hp : p ≤ 900000000000) (hr : RdIn base w g p) :
    Calls Tryz.prog 55 #[.pointer (some ⟨g, 0, none⟩)] w fun e w' => RetNum base g p w e w' := by
  have HR := hide hr
  clear hr
  go_enter Tryz.func55, Tryz.ntmps55
  go_wp2_with fail
  refine (pick_any _ base g p 12 (by omega) (by omega) (by omega) (unhide HR)).mono ?_
  rintro e w1 ⟨v, rfl, hv0, hv6, hr1, ht1⟩
  have HR1 := hide hr1
  have HT1 := hide ht1
  have hg1 := hr1.lt
  clear hr1 ht1
  by_cases hz : v = 0
  · have hz' : (v == 0) = true := by simp [hz]
    clear hz
    have hA : Turn [] w1 (w1.alloc (.cells (eightNums.map (Value.int .i64)).toArray 3)) := (Turn.refl _ _).alloc _
    have HR2 := hide ((unhide HR1).turn hA (by simp) (by simp))
    have HA := hide hA
    clear hA
    go_wp2_with fail
    refine (pick_any _ base g (p + 1) 8 (by omega) (by omega) (by omega) (unhide HR2)).mono ?_
    rintro e w2 ⟨u, rfl, hu0, hu8, hr2, ht2⟩
    obtain ⟨j, rfl⟩ := Int.eq_ofNat_of_zero_le hu0
    have hj : j < eightNums.length := by show j < 8; omega
    have hcell : w2.cell? ⟨w1.heap.size, j, none⟩ = some (.int .i64 eightNums[j]) := by
      rw [ht2.cell (by simp) (by simp; omega)]
      exact int_cells w1 eightNums _ j hj
    have HR3 := hide hr2
    have HT2 := hide ht2
    clear hr2 ht2
    go_wp2_with fail
    go_ret
    exact ⟨_, p + 1 + 1, rfl, by omega, by omega, unhide HR3, (unhide HT1).trans (((unhide HA).mono (by simp)).trans (unhide HT2))⟩
  · have hz' : (v == 0) = false := by simp [hz]
    clear hz
    go_wp2_with fail
    refine (pick_any _ base g (p + 1) 12 (by omega) (by omega) (by omega) (unhide HR1)).mono ?_
    rintro e w2 ⟨u, rfl, hu0, hu8, hr2, ht2⟩
    have HR3 := hide hr2
    have HT2 := hide ht2
    clear hr2 ht2
    go_wp2_with fail
    go_ret
    exact ⟨_, p + 1 + 1, rfl, by omega, by omega, unhide HR3, (unhide HT1).trans (unhide HT2)⟩

theorem infoNode4 : (Tryz.prog.info? 51).map (fun i => (i.zero, i.size, i.bytes)) = some (some (.agg #[.int .i64 0, .int .i64 0, .string ByteArray.empty, .int .i64 0]), 4, 40) := by kernel_rfl

end Go.Proofs.YtkfhokeoooafnaaGreatDoor
