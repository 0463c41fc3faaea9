/-
  Lists of versions: for reading, and as rows of one's own.
-/
/-
  Names outside bodies: one to eight bytes, each a letter, a digit or '-'; both sides ask so.
-/
import Derived.Test.YtiebfcefmdiajaaGreatDoorMerged5
import Derived.Test.YtiebfcefmdiajaaGreatDoorMerged4
import Derived.Lib.ConvBytes
set_option linter.unusedVariables false
namespace Go.Proofs.YtiebfcefmdiajaaGreatDoor
open Go.RowKit Go.Maps Go.Deep

def VerRd (w : World) (v : Value) (ns : List VerV) : Prop := ∃ a c, v = .slice a ns.length c ∧ VerIn w a ns
def VerOwn (S : List Nat) (w : World) (v : Value) (ns : List VerV) : Prop :=
  (S = [] ∧ ns = [] ∧ ∃ a c, v = .slice a 0 c) ∨ ∃ b off cap, S = [b] ∧ v = .slice (some ⟨b, off, none⟩) ns.length cap ∧ b < w.heap.size ∧ VerAt w b off ns ∧ ∀ i, i < ns.length * 2 → w.frozen? ⟨b, off + i, none⟩ = false
theorem VerAt.turn {w w' : World} {S : List Nat} {b off : Nat} {ns : List VerV} (h : VerAt w b off ns) (ht : Turn S w w') (hb : b < w.heap.size) (hS : b ∉ S) : VerAt w' b off ns := by
  intro i hi
  obtain ⟨c0, c1⟩ := h i hi
  exact ⟨(ht.cell hb hS).trans c0, (ht.cell hb hS).trans c1⟩
theorem VerRd.up {w w' : World} {v : Value} {ns : List VerV} (h : VerRd w v ns) (hb : Below w.heap.size w w') : VerRd w' v ns := by
  obtain ⟨a, c, e, h⟩ := h
  exact ⟨a, c, e, h.below hb⟩
theorem VerRd.len {w : World} {v : Value} {ns : List VerV} (h : VerRd w v ns) : ∃ a c, v = .slice a ns.length c := by
  obtain ⟨a, c, e, _⟩ := h
  exact ⟨a, c, e⟩
theorem VerOwn.rd {S : List Nat} {w : World} {v : Value} {ns : List VerV} (h : VerOwn S w v ns) : VerRd w v ns := by
  rcases h with ⟨_, rfl, a, c, rfl⟩ | ⟨b, off, cap, _, rfl, hb, hc, _⟩
  · exact ⟨a, c, rfl, .inl rfl⟩
  · exact ⟨_, cap, rfl, .inr ⟨b, off, rfl, hb, hc⟩⟩
theorem VerOwn.turn {S S' : List Nat} {w w' : World} {v : Value} {ns : List VerV} (h : VerOwn S w v ns) (ht : Turn S' w w') (hS : ∀ k ∈ S, k ∉ S') : VerOwn S w' v ns := by
  rcases h with h | ⟨b, off, cap, rfl, rfl, hb, hc, hf⟩
  · exact .inl h
  · have hn := hS b (by simp)
    exact .inr ⟨b, off, cap, rfl, rfl, Nat.lt_of_lt_of_le hb ht.size, hc.turn ht hb hn, fun i hi => (ht.frozen hb hn).trans (hf i hi)⟩
theorem VerOwn.up {S : List Nat} {w w' : World} {v : Value} {ns : List VerV} (h : VerOwn S w v ns) (hb : Below w.heap.size w w') : VerOwn S w' v ns := h.turn (Turn.of_below (S := []) hb) (by simp)
theorem VerOwn.lt {S : List Nat} {w : World} {v : Value} {ns : List VerV} (h : VerOwn S w v ns) : ∀ k ∈ S, k < w.heap.size := by
  rcases h with ⟨rfl, _⟩ | ⟨b, off, cap, rfl, rfl, hb, _⟩
  · simp
  · simpa using hb
theorem eqVerS_rd (w : World) (v v' : Value) (ns : List VerV) (hl : ns.length ≤ 281474976710656) (h : VerRd w v ns) (h' : VerRd w v' ns) :
    Calls Tryz.prog 28 #[v, v'] w fun e w' => e = .returned (.bool true) ∧ Below w.heap.size w w' := by
  obtain ⟨a, c, rfl, h⟩ := h
  obtain ⟨a', c', rfl, h'⟩ := h'
  rcases h with rfl | ⟨b, off, rfl, hb, hc⟩
  · go_enter Tryz.func28, Tryz.ntmps28
    go_wp2
    refine wp_loop_rounds 1 ?_
    rw [rounds_succ]
    go_wp2
    go_ret
    exact ⟨rfl, Below.refl _ _⟩
  · rcases h' with rfl | ⟨b', off', rfl, hb', hc'⟩
    · go_enter Tryz.func28, Tryz.ntmps28
      go_wp2
      refine wp_loop_rounds 1 ?_
      rw [rounds_succ]
      go_wp2
      go_ret
      exact ⟨rfl, Below.refl _ _⟩
    · exact eqVerS_same w b off c b' off' c' ns hl hc hc' hb hb'
end Go.Proofs.YtiebfcefmdiajaaGreatDoor

set_option linter.unusedVariables false
namespace Go.Proofs.YtiebfcefmdiajaaGreatDoor
open Go.RowKit Go.Maps Go.Deep

def plainN (x : Nat) : Bool := (decide (97 ≤ x) && decide (x ≤ 122)) || (decide (48 ≤ x) && decide (x ≤ 57)) || decide (x = 45)
def plainB (s : ByteArray) : Bool := decide (1 ≤ s.size) && decide (s.size ≤ 8) && s.data.toList.all fun c => plainN c.toNat
/-- what the tests of a byte come to, by whether it may stand in a name -/
theorem plain_cases (n : Nat) : (plainN n = true ∧ ((97 ≤ (n : Int) ∧ (n : Int) ≤ 122) ∨ ((n : Int) < 97 ∧ 48 ≤ (n : Int) ∧ (n : Int) ≤ 57) ∨ ((n : Int) < 97 ∧ (n : Int) < 48 ∧ ((n : Int) != 45) = false))) ∨
    (plainN n = false ∧ ((n : Int) != 45) = true ∧ (((n : Int) < 97 ∧ (n : Int) < 48) ∨ ((n : Int) < 97 ∧ 48 ≤ (n : Int) ∧ 57 < (n : Int)) ∨ (97 ≤ (n : Int) ∧ 122 < (n : Int) ∧ 48 ≤ (n : Int) ∧ 57 < (n : Int)))) := by
  unfold plainN
  simp
  omega
def PlainTo (s : ByteArray) (k : Nat) : Prop := ∀ i (h : i < s.size), i < k → plainN s[i].toNat = true
theorem plain_short (s : ByteArray) (h : ¬ 1 ≤ s.size) : plainB s = false := by simp [plainB, h]
theorem plain_long (s : ByteArray) (h : ¬ s.size ≤ 8) : plainB s = false := by simp [plainB, h]
theorem plain_bad (s : ByteArray) (i : Nat) (h : i < s.size) (hf : plainN s[i].toNat = false) : plainB s = false := by
  have : (s.data.toList.all fun c => plainN c.toNat) = false := by
    rw [List.all_eq_false]
    exact ⟨s[i], by simp [ByteArray.getElem_eq_getElem_data], by simpa using hf⟩
  simp [plainB, this]
theorem plain_good (s : ByteArray) (h1 : 1 ≤ s.size) (h8 : s.size ≤ 8) (h : PlainTo s s.size) : plainB s = true := by
  have : (s.data.toList.all fun c => plainN c.toNat) = true := by
    rw [List.all_eq_true]
    intro c hc
    obtain ⟨i, hi, rfl⟩ := List.getElem_of_mem hc
    exact h i (by simpa using hi) (by simpa using hi)
  simp [plainB, this, h1, h8]
theorem PlainTo.step {s : ByteArray} {k : Nat} (h : PlainTo s k) (hk : k < s.size) (hp : plainN s[k].toNat = true) : PlainTo s (k + 1) := by
  intro i hi hik
  by_cases e : i = k
  · subst e; exact hp
  · exact h i hi (by omega)

set_option maxHeartbeats 1600000 in
theorem specPlain9_any (s : ByteArray) (w : World) (hs : s.size ≤ maxLen) : Calls Tryz.prog 35 #[.string s] w fun e w' => e = .returned (.bool (plainB s)) ∧ w' = w := by
  unfold maxLen at hs
  by_cases h1 : 1 ≤ s.size
  · by_cases h8 : s.size ≤ 8
    · have g1 : ¬ (s.size : Int) < 1 := by omega
      have g8 : ¬ (8 : Int) < (s.size : Int) := by omega
      go_enter Tryz.func35, Tryz.ntmps35
      go_wp2_with fail
      go_loop [3] (fun i => ∃ k : Nat, k ≤ s.size ∧ i = .int .i64 k ∧ Hid (PlainTo s k)) (fun i => s.size - (intOf i).toNat)
      case atStart => exact ⟨0, Nat.zero_le _, rfl, fun j _ hj => absurd hj (Nat.not_lt_zero _)⟩
      case round =>
        obtain ⟨k, hk, rfl, HP⟩ := hrel
        by_cases hlt : k < s.size
        · rcases plain_cases s[k].toNat with ⟨hp, hc⟩ | ⟨hp, hne, hc⟩
          · have HP2 := hide ((unhide HP).step hlt hp)
            clear hp
            rcases hc with ⟨c1, c2⟩ | ⟨c1, c2, c3⟩ | ⟨c1, c2, c3⟩
            all_goals
              go_wp2_with fail
              go_round
              case rel => exact ⟨k + 1, by omega, by go_num, HP2⟩
              case measure => simp [intOf]; omega
          · have HB := hide (plain_bad s k hlt hp)
            clear hp
            rcases hc with ⟨c1, c2⟩ | ⟨c1, c2, c3⟩ | ⟨c1, c2, c3, c4⟩
            all_goals
              go_wp2_with fail
              go_ret
              exact ⟨ret_bool (unhide HB).symm, rfl⟩
        · have HG := hide (plain_good s h1 h8 (fun i hi _ => unhide HP i hi (by omega)))
          go_wp2_with fail
          go_ret
          exact ⟨ret_bool (unhide HG).symm, rfl⟩
    · have HB := hide (plain_long s h8)
      go_enter Tryz.func35, Tryz.ntmps35
      go_wp2_with fail
      go_ret
      exact ⟨ret_bool (unhide HB).symm, rfl⟩
  · have HB := hide (plain_short s h1)
    go_enter Tryz.func35, Tryz.ntmps35
    go_wp2_with fail
    go_ret
    exact ⟨ret_bool (unhide HB).symm, rfl⟩
theorem conv_below (w : World) (e : TypeId) (s : ByteArray) : Below w.heap.size w (Lib.bytesWorld w e s) := by
  refine ⟨rfl, rfl, rfl, by rw [Lib.bytesWorld_size]; omega, fun k hk => Lib.bytesWorld_at_old w e s k hk⟩
theorem conv_cell (w : World) (e : TypeId) (s : ByteArray) (j : Nat) (hj : j < s.size) : (Lib.bytesWorld w e s).cell? ⟨w.heap.size, j, none⟩ = some (.int .u8 (s[j].toNat : Int)) := by
  rw [Lib.bytesWorld_cell w e s j hj]
  have : s.data.toList.getD j 0 = s[j] := by
    rw [List.getD_eq_getElem?_getD, List.getElem?_eq_getElem (by simpa using hj)]
    rfl
  rw [this]

set_option maxHeartbeats 1600000 in
theorem implPlain_any (s : ByteArray) (w : World) (hs : s.size ≤ maxLen) : Calls Tryz.prog 51 #[.string s] w fun e w' => e = .returned (.bool (plainB s)) ∧ Below w.heap.size w w' := by
  unfold maxLen at hs
  by_cases h1 : 1 ≤ s.size
  · by_cases h8 : s.size ≤ 8
    · have g1 : ¬ (s.size : Int) < 1 := by omega
      have g8 : ¬ (8 : Int) < (s.size : Int) := by omega
      have hcv := Lib.run_convert_string_bytes (P := Tryz.prog) w 9 30 5 s Tryz.underlying9 Tryz.underlying30 Tryz.underlying5
      have HB := hide (conv_below w 5 s)
      have HC := hide (conv_cell w 5 s)
      generalize Lib.bytesWorld w 5 s = w1 at *
      go_enter Tryz.func51, Tryz.ntmps51
      go_wp2_with fail
      clear hcv
      go_loop [16] (fun i => ∃ k : Nat, k ≤ s.size ∧ i = .int .i64 k ∧ Hid (PlainTo s k)) (fun i => s.size - (intOf i).toNat)
      case atStart => exact ⟨0, Nat.zero_le _, rfl, fun j _ hj => absurd hj (Nat.not_lt_zero _)⟩
      case round =>
        obtain ⟨k, hk, rfl, HP⟩ := hrel
        by_cases hlt : k < s.size
        · have c0 := unhide HC k hlt
          rcases plain_cases s[k].toNat with ⟨hp, hc⟩ | ⟨hp, hne, hc⟩
          · have HP2 := hide ((unhide HP).step hlt hp)
            clear hp
            rcases hc with ⟨c1, c2⟩ | ⟨c1, c2, c3⟩ | ⟨c1, c2, c3⟩
            all_goals
              go_wp2_with fail
              go_round
              case rel => exact ⟨k + 1, by omega, by go_num, HP2⟩
              case measure => simp [intOf]; omega
          · have HBD := hide (plain_bad s k hlt hp)
            clear hp
            rcases hc with ⟨c1, c2⟩ | ⟨c1, c2, c3⟩ | ⟨c1, c2, c3, c4⟩
            all_goals
              go_wp2_with fail
              go_ret
              exact ⟨ret_bool (unhide HBD).symm, unhide HB⟩
        · have HG := hide (plain_good s h1 h8 (fun i hi _ => unhide HP i hi (by omega)))
          go_wp2_with fail
          go_ret
          exact ⟨ret_bool (unhide HG).symm, unhide HB⟩
    · have HB := hide (plain_long s h8)
      go_enter Tryz.func51, Tryz.ntmps51
      go_wp2_with fail
      go_ret
      exact ⟨ret_bool (unhide HB).symm, Below.refl _ _⟩
  · have HB := hide (plain_short s h1)
    go_enter Tryz.func51, Tryz.ntmps51
    go_wp2_with fail
    go_ret
    exact ⟨ret_bool (unhide HB).symm, Below.refl _ _⟩
end Go.Proofs.YtiebfcefmdiajaaGreatDoor
