/-
  The two sides of BodyNameOk: the program goes through the runes of a text, the specification through its bytes; both answer 'nameB' at every string.
-/
/-
  A list of nodes that comes in, opened: nil, or a row of nodes in memory. And the law's helpers over it.
-/
/-
  Small facts on texts, worlds and maps of the call's own.
-/
import Derived.Test.YtjfebnplffpmoaaGreatDoorMerged3
import Derived.Laws.RangeString
import Derived.Laws.RangeAny
import Derived.Test.YtjfebnplffpmoaaGreatDoorMerged4
import Derived.Deep.Slices
import Derived.ProofKit
import Derived.Deep.QuietTactic
import Derived.BigQuiet
namespace Go.Proofs.YtjfebnplffpmoaaGreatDoor
open Go.RowKit Go.Maps

def letB (r : Int) : Bool := decide (97 ≤ r) && decide (r ≤ 122)
def digB (r : Int) : Bool := decide (48 ≤ r) && decide (r ≤ 57)
def byteAt (s : ByteArray) (i : Nat) : Int := (s.data.getD i 0).toNat
/-- every byte ahead of a place is a letter, or a digit that is not the first -/
def goodTo (s : ByteArray) (n : Nat) : Prop := ∀ i, i < n → letB (byteAt s i) = true ∨ (i ≠ 0 ∧ digB (byteAt s i) = true)
def restB (s : ByteArray) : Bool := (List.range s.size).all fun i => letB (byteAt s i) || (decide (i ≠ 0) && digB (byteAt s i))
def nameB (s : ByteArray) : Bool := decide (1 ≤ s.size) && decide (s.size ≤ 8) && restB s && !isKeyB s

theorem rest_iff (s : ByteArray) : restB s = true ↔ goodTo s s.size := by
  unfold restB goodTo
  simp [List.all_eq_true]

theorem byteAt_eq (s : ByteArray) (i : Nat) (h : i < s.size) : byteAt s i = ((s[i]'h).toNat : Int) := by
  unfold byteAt
  have : s.data.getD i 0 = s[i]'h := by
    have h' : i < s.data.size := h
    rw [Array.getD, dif_pos h']
    rfl
  rw [this]

set_option maxHeartbeats 400000 in
theorem isLetter_any (r : Int) (w : World) : Calls Tryz.prog 39 #[.int .i32 r] w fun e w' => e = .returned (.bool (letB r)) ∧ w' = w := by
  unfold letB
  by_cases h1 : 97 ≤ r <;> by_cases h2 : r ≤ 122
  all_goals
    go_enter Tryz.func39, Tryz.ntmps39
    go_wp2
    go_ret
    exact ⟨by simp [h1, h2], rfl⟩
set_option maxHeartbeats 400000 in
theorem isDigit_any (r : Int) (w : World) : Calls Tryz.prog 38 #[.int .i32 r] w fun e w' => e = .returned (.bool (digB r)) ∧ w' = w := by
  unfold digB
  by_cases h1 : 48 ≤ r <;> by_cases h2 : r ≤ 57
  all_goals
    go_enter Tryz.func38, Tryz.ntmps38
    go_wp2
    go_ret
    exact ⟨by simp [h1, h2], rfl⟩
set_option maxHeartbeats 400000 in
theorem l1Letter_any (r : Int) (w : World) : Calls Tryz.prog 27 #[.int .u8 r] w fun e w' => e = .returned (.bool (letB r)) ∧ w' = w := by
  unfold letB
  by_cases h1 : 97 ≤ r <;> by_cases h2 : r ≤ 122
  all_goals
    go_enter Tryz.func27, Tryz.ntmps27
    go_wp2
    go_ret
    exact ⟨by simp [h1, h2], rfl⟩
set_option maxHeartbeats 400000 in
theorem l1Digit_any (r : Int) (w : World) : Calls Tryz.prog 25 #[.int .u8 r] w fun e w' => e = .returned (.bool (digB r)) ∧ w' = w := by
  unfold digB
  by_cases h1 : 48 ≤ r <;> by_cases h2 : r ≤ 57
  all_goals
    go_enter Tryz.func25, Tryz.ntmps25
    go_wp2
    go_ret
    exact ⟨by simp [h1, h2], rfl⟩

theorem name_short (s : ByteArray) (h : ¬ (1 : Int) ≤ (s.size : Int)) : nameB s = false := by
  have : ¬ 1 ≤ s.size := by omega
  simp [nameB, this]
theorem name_long (s : ByteArray) (h : ¬ (s.size : Int) ≤ 8) : nameB s = false := by
  have : ¬ s.size ≤ 8 := by omega
  simp [nameB, this]
theorem name_bad (s : ByteArray) (i : Nat) (h : i < s.size) (hl : letB (byteAt s i) = false) (hd : i = 0 ∨ digB (byteAt s i) = false) : nameB s = false := by
  have : restB s = false := by
    cases hr : restB s
    · rfl
    · rw [rest_iff] at hr
      rcases hr i h with e | ⟨e, e2⟩
      · rw [hl] at e; cases e
      · rcases hd with hd | hd
        · exact absurd hd e
        · rw [hd] at e2; cases e2
  simp [nameB, this]
theorem name_good (s : ByteArray) (h1 : (1 : Int) ≤ (s.size : Int)) (h8 : (s.size : Int) ≤ 8) (hg : goodTo s s.size) : nameB s = !isKeyB s := by
  have a1 : 1 ≤ s.size := by omega
  have a8 : s.size ≤ 8 := by omega
  simp [nameB, a1, a8, (rest_iff s).2 hg]
theorem name_key (s : ByteArray) (hk : isKeyB s = true) : nameB s = false := by simp [nameB, hk]
theorem goodTo_succ (s : ByteArray) (k : Nat) (hg : goodTo s k) (h : letB (byteAt s k) = true ∨ (k ≠ 0 ∧ digB (byteAt s k) = true)) : goodTo s (k + 1) := by
  intro i hi
  by_cases e : i = k
  · subst e; exact h
  · exact hg i (by omega)

set_option maxHeartbeats 1600000 in
set_option maxRecDepth 100000 in
theorem specName_any (w : World) (s : ByteArray) (hs : s.size ≤ maxLen) :
    Calls Tryz.prog 71 #[.string s] w fun e w' => e = .returned (.bool (nameB s)) ∧ Below w.heap.size w w' := by
  unfold maxLen at hs
  by_cases h1 : (1 : Int) ≤ (s.size : Int)
  · by_cases h8 : (s.size : Int) ≤ 8
    · have hb0 := hide (byteAt_eq s 0 (by omega))
      cases hl : letB (s[0]'(by omega)).toNat
      · have hf := hide (name_bad s 0 (by omega) (by rw [unhide hb0]; exact hl) (.inl rfl))
        go_enter Tryz.func71, Tryz.ntmps71
        go_wp2_with (first
          | (go_at_call 27; refine (l1Letter_any _ _).mono ?_; rintro e w1 ⟨rfl, rfl⟩)
          | go_in)
        go_ret
        exact ⟨ret_bool (unhide hf).symm, Below.refl _ _⟩
      · have hl0 := hide hl
        go_enter Tryz.func71, Tryz.ntmps71
        go_wp2_with (first
          | (go_at_call 27; refine (l1Letter_any _ _).mono ?_; rintro e w1 ⟨rfl, rfl⟩)
          | go_in)
        clear hl
        go_loop [3] (fun i => ∃ k : Nat, k ≤ s.size ∧ i = .int .i64 k ∧ goodTo s k) (fun i => s.size - (intOf i).toNat)
        case atStart => exact ⟨0, Nat.zero_le _, rfl, fun j hj => absurd hj (Nat.not_lt_zero _)⟩
        case round =>
          obtain ⟨k, hk, rfl, hno⟩ := hrel
          have hgood := hide hno
          clear hno
          by_cases hlt : k < s.size
          · have hbk := hide (byteAt_eq s k hlt)
            cases hl : letB (s[k]'hlt).toNat
            · cases hd : digB (s[k]'hlt).toNat
              · have hf := hide (name_bad s k hlt (by rw [unhide hbk]; exact hl) (.inr (by rw [unhide hbk]; exact hd)))
                go_wp2_with (first
                  | (go_at_call 27; refine (l1Letter_any _ _).mono ?_; rintro e w1 ⟨rfl, rfl⟩)
                  | (go_at_call 25; refine (l1Digit_any _ _).mono ?_; rintro e w1 ⟨rfl, rfl⟩)
                  | go_in)
                go_ret
                exact ⟨ret_bool (unhide hf).symm, Below.refl _ _⟩
              · have hk0 : k ≠ 0 := by
                  rintro rfl
                  have := unhide hl0
                  rw [hl] at this
                  cases this
                have hg1 := hide (goodTo_succ s k (unhide hgood) (.inr ⟨hk0, by rw [unhide hbk]; exact hd⟩))
                clear hk0
                go_wp2_with (first
                  | (go_at_call 27; refine (l1Letter_any _ _).mono ?_; rintro e w1 ⟨rfl, rfl⟩)
                  | (go_at_call 25; refine (l1Digit_any _ _).mono ?_; rintro e w1 ⟨rfl, rfl⟩)
                  | go_in)
                go_round
                case rel => exact ⟨k + 1, by omega, by go_num, unhide hg1⟩
                case measure => simp [intOf]; omega
            · have hg1 := hide (goodTo_succ s k (unhide hgood) (.inl (by rw [unhide hbk]; exact hl)))
              go_wp2_with (first
                | (go_at_call 27; refine (l1Letter_any _ _).mono ?_; rintro e w1 ⟨rfl, rfl⟩)
                | (go_at_call 25; refine (l1Digit_any _ _).mono ?_; rintro e w1 ⟨rfl, rfl⟩)
                | go_in)
              go_round
              case rel => exact ⟨k + 1, by omega, by go_num, unhide hg1⟩
              case measure => simp [intOf]; omega
          · have hf := hide (name_good s h1 h8 (by have e : k = s.size := by omega
                                                   rw [← e]; exact unhide hgood))
            go_wp2_with (first
              | (go_at_call 28; refine (specKey_any _ _).mono ?_; rintro e w2 ⟨rfl, hb⟩)
              | go_in)
            go_ret
            exact ⟨ret_bool (unhide hf).symm, hb⟩
    · have hf := hide (name_long s h8)
      go_enter Tryz.func71, Tryz.ntmps71
      go_wp2
      go_ret
      exact ⟨ret_bool (unhide hf).symm, Below.refl _ _⟩
  · have hf := hide (name_short s h1)
    go_enter Tryz.func71, Tryz.ntmps71
    go_wp2
    go_ret
    exact ⟨ret_bool (unhide hf).symm, Below.refl _ _⟩

theorem high_not (s : ByteArray) (k : Nat) (h : k < s.size) (hh : ¬ (s[k]'h).toNat < 128) : letB (byteAt s k) = false ∧ digB (byteAt s k) = false ∧ letB ((Utf8.decode s k).1 : Nat) = false ∧ digB ((Utf8.decode s k).1 : Nat) = false := by
  have hd := (decode_high s k h (by omega)).1
  rw [byteAt_eq s k h]
  unfold letB digB
  have e1 : ¬ (((s[k]'h).toNat : Int) ≤ 122) := by omega
  have e2 : ¬ (((s[k]'h).toNat : Int) ≤ 57) := by omega
  have e3 : ¬ (((Utf8.decode s k).1 : Nat) : Int) ≤ 122 := by omega
  have e4 : ¬ (((Utf8.decode s k).1 : Nat) : Int) ≤ 57 := by omega
  simp [e1, e2, e3, e4]

/-- the rune at a place answers both questions as the byte there does; where one of them is yes it is one byte wide -/
theorem rune_byte (s : ByteArray) (k : Nat) (h : k < s.size) : letB ((Utf8.decode s k).1 : Nat) = letB (byteAt s k) ∧ digB ((Utf8.decode s k).1 : Nat) = digB (byteAt s k) ∧ ((letB (byteAt s k) = true ∨ digB (byteAt s k) = true) → (Utf8.decode s k).2 = 1) := by
  by_cases hh : (s[k]'h).toNat < 128
  · rw [decode_ascii s k h hh, byteAt_eq s k h]
    exact ⟨rfl, rfl, fun _ => rfl⟩
  · obtain ⟨a, b, c, d⟩ := high_not s k h hh
    rw [a, b, c, d]
    exact ⟨rfl, rfl, fun e => by rcases e with e | e <;> cases e⟩

end Go.Proofs.YtjfebnplffpmoaaGreatDoor

namespace Go.Proofs.YtjfebnplffpmoaaGreatDoor
open Go.RowKit Go.Maps Go.Deep

/-- a slice value leads to these nodes: empty, or a row of them -/
def NodesIn (w : World) (a : Option Addr) (ns : List NodeV) : Prop :=
  ns = [] ∨ ∃ b off, a = some ⟨b, off, none⟩ ∧ b < w.heap.size ∧ NodesAt w b off ns
def NamesOk (ns : List NodeV) : Prop := ∀ n ∈ ns, n.name.size ≤ maxLen

theorem NodesAt.below {w w' : World} {B b off : Nat} {ns : List NodeV} (h : NodesAt w b off ns) (hb : Below B w w') (hB : b < B) : NodesAt w' b off ns := by
  intro i hi
  obtain ⟨c0, c1, c2, c3⟩ := h i hi
  exact ⟨(hb.cell (by exact hB)).trans c0, (hb.cell (by exact hB)).trans c1, (hb.cell (by exact hB)).trans c2, (hb.cell (by exact hB)).trans c3⟩
theorem NodesIn.below {w w' : World} {a : Option Addr} {ns : List NodeV} (h : NodesIn w a ns) (hb : Below w.heap.size w w') : NodesIn w' a ns := by
  rcases h with h | ⟨b, off, e, hlt, hn⟩
  · exact .inl h
  · exact .inr ⟨b, off, e, Nat.lt_of_lt_of_le hlt hb.size, hn.below hb hlt⟩

theorem cells_int : Tryz.prog.cellsOf 3 = 1 := by kernel_rfl
theorem cells_str : Tryz.prog.cellsOf 9 = 1 := by kernel_rfl

theorem lt_of_cell {w : World} {b off : Nat} {v : Value} (h : w.cell? ⟨b, off, none⟩ = some v) : b < w.heap.size := by
  by_cases hb : b < w.heap.size
  · exact hb
  · exfalso
    have : w.heap[b]? = none := Array.getElem?_eq_none (by omega)
    simp [World.cell?, this] at h

end Go.Proofs.YtjfebnplffpmoaaGreatDoor

namespace Go.Proofs.YtjfebnplffpmoaaGreatDoor
open Go.RowKit Go.Maps

theorem str_empty (s : ByteArray) (h : s.size = 0) : s.toList = [] := by
  rw [ByteArray.toList_eq]
  exact List.eq_nil_of_length_eq_zero (by simpa using h)
theorem str_full (s : ByteArray) (h : ¬ s.size = 0) : s.toList.isEmpty = false := by
  rw [ByteArray.toList_eq, List.isEmpty_eq_false_iff]
  intro e
  apply h
  have : s.data.toList.length = 0 := by rw [e]; rfl
  simpa using this

theorem below_dn {B : Nat} {a w : World} (h : Below B a w) (n : Nat) : Below B a (w.drewN n) := h.trans ⟨rfl, rfl, rfl, Nat.le_refl _, fun _ _ => rfl⟩

theorem bcell {W w1 : World} (hb : Below W.heap.size W w1) : (∀ b o, b < W.heap.size → w1.cell? ⟨b, o, none⟩ = W.cell? ⟨b, o, none⟩) ∧ (∀ b o, b < W.heap.size → w1.frozen? ⟨b, o, none⟩ = W.frozen? ⟨b, o, none⟩) :=
  ⟨fun b o h => hb.cell (p := ⟨b, o, none⟩) h, fun b o h => hb.frozen (p := ⟨b, o, none⟩) h⟩
theorem dec_beq (a b : Int) : decide (a = b) = (a == b) := by rw [Bool.eq_iff_iff]; simp
theorem ownsMap_below {H : Type} {P : Program} {k : TypeId} {R : Value → Option (DataW H × List MemPlace)} {w w' : World} {b n B : Nat} {D : DataW H} (h : w.ownsMap P k R b n D) (hb : Below B w w') (hB : b < B) : w'.ownsMap P k R b n D := by
  obtain ⟨es, clock, hh, r⟩ := h
  exact ⟨es, clock, (hb.block b hB).trans hh, r⟩

theorem ownsMap_grown {H : Type} {P : Program} {k : TypeId} {R : Value → Option (DataW H × List MemPlace)} {w w' : World} {b n t : Nat} {D : DataW H} (h : w.ownsMap P k R b n D) (hb : w.grownBy w' (some t)) (hne : b ≠ t) (hlt : b < w.heap.size) : w'.ownsMap P k R b n D := by
  obtain ⟨es, clock, h1, h2⟩ := h
  exact ⟨es, clock, (hb.block b hlt (by simpa using hne)).trans h1, h2⟩
theorem ownsRow_up {w w' : World} {base : Nat} {e : TypeId} {size : Nat} {v : Value} {n : Nat} {xs : List Value} (h : w.ownsRow base e size v n xs) (hb : Below w.heap.size w w') : w'.ownsRow base e size v n xs := by
  refine ⟨h.1, ?_⟩
  rcases h.2 with h0 | ⟨g, cap, cur, hv, hB, hg, r⟩
  · exact .inl h0
  · exact .inr ⟨g, cap, cur, hv, hB, (hb.block g (Array.getElem?_eq_some_iff.1 hg).1).trans hg, r⟩
theorem ownBlock_ge {w : World} {base : Nat} {e : TypeId} {size : Nat} {v : Value} {n : Nat} {xs : List Value} (h : w.ownsRow base e size v n xs) : ∀ k, v.ownBlock = some k → base ≤ k := by
  intro k hk
  rcases h.2 with ⟨rfl, _⟩ | ⟨g, cap, cur, rfl, hB, hg, r⟩
  · cases hk
  · simp only [Value.ownBlock, Option.some.injEq] at hk
    omega

end Go.Proofs.YtjfebnplffpmoaaGreatDoor
